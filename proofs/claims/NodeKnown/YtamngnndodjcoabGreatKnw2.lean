/- NodeKnown: two directories, a file and its handle beside each other; names. -/
import Derived.Test.YtamngnndodjcoabGreatKnw
import Derived.Laws.CopyOwn
namespace Go.Proofs.YtamngnndodjcoabGreat
open Go.RowKit

structure Kn (w0 w : World) (A B C D : Nat) (l : List UInt8) (h fb mo nb db mb n2 d2 m2 fn ff : Nat) (u1 : Value) (L1 : List KV) (u2 : Value) (L2 : List KV) : Prop where
  all : AllT 22 w h fb ⟨mo, 0, none⟩
  my : My w mo l
  dd : Dr w nb db mb u1 L1
  ee : Dr w n2 d2 m2 u2 L2
  fl : Fl w fn ff h
  bel : Below w0.heap.size w0 w
  nh : w0.heap.size ≤ mo ∧ mo < h ∧ mo < fb ∧ h < A ∧ fb < A
  nd : B ≤ nb ∧ B ≤ db ∧ B ≤ mb ∧ nb < C ∧ db < C ∧ mb < C
  ne : C ≤ n2 ∧ C ≤ d2 ∧ C ≤ m2 ∧ n2 < D ∧ d2 < D ∧ m2 < D
  nf : A ≤ fn ∧ A ≤ ff ∧ fn < B ∧ ff < B
section
variable {w0 w w' : World} {A B C D : Nat} {l : List UInt8} {h fb mo nb db mb n2 d2 m2 fn ff : Nat} {u1 u2 u1' u2' : Value} {L1 L2 L1' L2' : List KV}
theorem Kn.hn (k : Kn w0 w A B C D l h fb mo nb db mb n2 d2 m2 fn ff u1 L1 u2 L2) : Hn w h mo l := ⟨⟨fb, k.nh.2.2.1, k.all⟩, k.nh.2.1, k.my⟩
theorem Kn.step (k : Kn w0 w A B C D l h fb mo nb db mb n2 d2 m2 fn ff u1 L1 u2 L2) {F : Nat → Prop} (u : Upd F w w') (hF : ∀ x, F x → x = mb ∨ x = m2 ∨ x = db ∨ x = d2) (hD : Dr w' nb db mb u1' L1') (hE : Dr w' n2 d2 m2 u2' L2') : Kn w0 w' A B C D l h fb mo nb db mb n2 d2 m2 fn ff u1' L1' u2' L2' := by
  obtain ⟨a1, a2, a3, a4, a5⟩ := k.nh
  obtain ⟨b1, b2, b3, b4, b5, b6⟩ := k.nd
  obtain ⟨c1, c2, c3, c4, c5, c6⟩ := k.ne
  obtain ⟨e1, e2, e3, e4⟩ := k.nf
  refine ⟨k.all.upd u (fun e => by rcases hF _ e with e | e | e | e <;> omega) (fun e => by rcases hF _ e with e | e | e | e <;> omega), k.my.upd u (fun x hx e => by rcases hF _ e with e | e | e | e <;> omega), hD, hE, k.fl.upd u (fun e => by rcases hF _ e with e | e | e | e <;> omega) (fun e => by rcases hF _ e with e | e | e | e <;> omega), k.bel.trans (u.below k.bel.size (fun x e => by rcases hF _ e with e | e | e | e <;> omega)), k.nh, k.nd, k.ne, k.nf⟩
theorem Kn.below (k : Kn w0 w A B C D l h fb mo nb db mb n2 d2 m2 fn ff u1 L1 u2 L2) (b : Below w.heap.size w w') : Kn w0 w' A B C D l h fb mo nb db mb n2 d2 m2 fn ff u1 L1 u2 L2 :=
  ⟨k.all.below b, k.my.below b, k.dd.below b, k.ee.below b, k.fl.below b, below_tr k.bel b, k.nh, k.nd, k.ne, k.nf⟩
theorem Kn.stepD (k : Kn w0 w A B C D l h fb mo nb db mb n2 d2 m2 fn ff u1 L1 u2 L2) (u : Upd (fun x => x = mb) w w') (hD : Dr w' nb db mb u1' L1') : Kn w0 w' A B C D l h fb mo nb db mb n2 d2 m2 fn ff u1' L1' u2 L2 := by
  obtain ⟨b1, b2, b3, b4, b5, b6⟩ := k.nd
  obtain ⟨c1, c2, c3, c4, c5, c6⟩ := k.ne
  exact k.step u (fun x e => .inl e) hD (k.ee.upd u (fun e => by have e : n2 = mb := e; omega) (fun e => by have e : d2 = mb := e; omega) (fun e => by have e : m2 = mb := e; omega))
theorem Kn.stepE (k : Kn w0 w A B C D l h fb mo nb db mb n2 d2 m2 fn ff u1 L1 u2 L2) (u : Upd (fun x => x = m2) w w') (hE : Dr w' n2 d2 m2 u2' L2') : Kn w0 w' A B C D l h fb mo nb db mb n2 d2 m2 fn ff u1 L1 u2' L2' := by
  obtain ⟨b1, b2, b3, b4, b5, b6⟩ := k.nd
  obtain ⟨c1, c2, c3, c4, c5, c6⟩ := k.ne
  exact k.step u (fun x e => .inr (.inl e)) (k.dd.upd u (fun e => by have e : nb = m2 := e; omega) (fun e => by have e : db = m2 := e; omega) (fun e => by have e : mb = m2 := e; omega)) hE
theorem Kn.read (k : Kn w0 w A B C D l h fb mo nb db mb n2 d2 m2 fn ff u1 L1 u2 L2) (u : Upd (fun x => x = mo) w w') (hH : Hn w' h mo l) : Kn w0 w' A B C D l h fb mo nb db mb n2 d2 m2 fn ff u1 L1 u2 L2 := by
  obtain ⟨a1, a2, a3, a4, a5⟩ := k.nh
  obtain ⟨b1, b2, b3, b4, b5, b6⟩ := k.nd
  obtain ⟨c1, c2, c3, c4, c5, c6⟩ := k.ne
  obtain ⟨e1, e2, e3, e4⟩ := k.nf
  exact ⟨k.all.upd u (fun e => by have e : h = mo := e; omega) (fun e => by have e : fb = mo := e; omega), hH.my, k.dd.upd u (fun e => by have e : nb = mo := e; omega) (fun e => by have e : db = mo := e; omega) (fun e => by have e : mb = mo := e; omega), k.ee.upd u (fun e => by have e : n2 = mo := e; omega) (fun e => by have e : d2 = mo := e; omega) (fun e => by have e : m2 = mo := e; omega), k.fl.upd u (fun e => by have e : fn = mo := e; omega) (fun e => by have e : ff = mo := e; omega), k.bel.trans (u.below k.bel.size (fun x e => by have e : x = mo := e; omega)), k.nh, k.nd, k.ne, k.nf⟩
end
/-- Heights: one for the second directory, nought for all else. -/
def hgt (n2 : Nat) (k : Nat) : Value → Nat
  | .pointer (some a) => if a.block = n2 then k else 0
  | _ => 0
theorem hgt_yes (n2 k : Nat) : hgt n2 k (Pt n2) = k := if_pos rfl
theorem hgt_no (n2 k m : Nat) (h : m ≠ n2) : hgt n2 k (Pt m) = 0 := if_neg h

theorem rc_of {name : ByteArray} {L : List KV} {x : Option (Nat × Bool)} {l : List Nat} {hh : Nat} (h1 : nameOk name = true) (h2 : lk L name = none) (h3 : L.length < 4096) : rcode name L x l hh = xcode x l hh := by
  unfold rcode
  rw [if_neg (by rw [h1]; decide), if_neg (by rw [h2]; decide), if_neg (by omega)]
theorem rc_there {name : ByteArray} {L : List KV} {x : Option (Nat × Bool)} {l : List Nat} {hh : Nat} {v : Value} (h1 : nameOk name = true) (h2 : lk L name = some v) : rcode name L x l hh = 191 := by
  unfold rcode
  rw [if_neg (by rw [h1]; decide), if_pos (by rw [h2]; rfl)]
/-- Whatever the name: not, where it would lie below itself. -/
theorem rc_loop {name : ByteArray} {L : List KV} {d : Nat} {s : Bool} {l : List Nat} {hh : Nat} (h : d ∈ l) : rcode name L (some (d, s)) l hh ≠ 0 := by
  unfold rcode
  split
  · omega
  · split
    · omega
    · split
      · omega
      · unfold xcode
        simp only
        rw [if_pos h]
        omega
theorem lk_two {a b : ByteArray} {v u : Value} (h : b ≠ a) : lk [(a, v), (b, u)] b = some u := by
  unfold lk
  rw [if_neg h]
  exact lk_one b u
theorem lk_first {a : ByteArray} {v : Value} {L : List KV} : lk ((a, v) :: L) a = some v := by unfold lk; rw [if_pos rfl]
theorem lk_other {a b : ByteArray} {v : Value} (h : b ≠ a) : lk [(a, v)] b = none := by unfold lk; rw [if_neg h]; rfl
theorem del_first {a : ByteArray} {v : Value} {L : List KV} : del ((a, v) :: L) a = L := by unfold del; rw [if_pos rfl]
theorem str_of_bytes (w : World) (a : Addr) (l : List UInt8) (n c : Nat) (hn : n = l.length) (h : ∀ j v, (bcells l)[j]? = some v → w.cell? (a.add j) = some v) : (convert 26 9 (.slice (some a) n c)).run Tryz.prog w = .ok (.string ⟨l.toArray⟩) w := by
  subst hn
  rw [run_convert_bytes_string w 26 9 5 (some a) l.length c Tryz.underlying26 Tryz.underlying5 Tryz.underlying9]
  have e : bcells l = (l.map fun b => (b.toNat : Int)).map (Value.int .u8) := by simp [bcells]
  rw [run_bytesToString w a l.length c (l.map fun b => (b.toNat : Int)) (by rw [← e]; have := run_loadCells_list (P := Tryz.prog) (w := w) a (bcells l) h; rwa [bcells_length] at this), foldl_push_byteCells, show ByteArray.empty.data = #[] from rfl, Array.empty_append]
theorem str_all (w : World) (a : Option Addr) (l : List UInt8) (c : Nat) (h : BsAt w a l) : (convert 26 9 (.slice a l.length c)).run Tryz.prog w = .ok (.string ⟨l.toArray⟩) w := by
  by_cases hl : l = []
  · subst hl
    cases a with
    | none =>
      show (convert 26 9 (.slice none 0 c)).run Tryz.prog w = _
      rw [run_convert_bytes_string w 26 9 5 none 0 c Tryz.underlying26 Tryz.underlying5 Tryz.underlying9]
      rfl
    | some a => exact str_of_bytes w a [] 0 c rfl (fun j v hj => by simp [bcells] at hj)
  · obtain ⟨ad, rfl, hc⟩ := h hl
    exact str_of_bytes w ad l l.length c rfl hc

theorem xc_free {d : Nat} {l : List Nat} {hh : Nat} (h : ¬ d ∈ l) (h2 : l.length - 1 + hh + 1 ≤ 64) : xcode (some (d, false)) l hh = 0 := by
  unfold xcode
  simp only
  rw [if_neg h, if_neg Bool.false_ne_true]
  unfold tcode
  rw [if_neg (by omega)]

theorem make_bytes (w : World) (m : Nat) (hm : m ≤ 4194305) : (Instr.makeSlice 26 (.int .i64 m) (.int .i64 m)).run Tryz.prog w = .ok (.slice (some ⟨w.heap.size, 0, none⟩) m m) (w.alloc (.cells (bcells (List.replicate m 0)).toArray 5)) := by
  obtain ⟨i, hi, hz, hs, hb⟩ := info_parts info5
  have h := run_make (P := Tryz.prog) w 26 5 i (.int .u8 0) Tryz.underlying26 hi hz .i64 .i64 m m (by omega) (Int.le_refl _) (by rw [hb]; omega) (by omega)
  rw [h, hs]
  simp only [Int.toNat_natCast, Nat.mul_one]
  have e : (madeCells (Value.int .u8 0).cells m) = (bcells (List.replicate m 0)).toArray := by
    apply Array.toList_inj.1
    rw [show (Value.int IntKind.u8 0).cells = #[.int .u8 0] from rfl, toList_madeCells_one]
    simp [bcells]
  rw [e]


theorem long_string (w : World) : (convert 26 9 (.slice (some ⟨w.heap.size, 0, none⟩) 4097 4097)).run Tryz.prog (w.alloc (.cells (bcells (List.replicate 4097 0)).toArray 5)) = .ok (.string ⟨(List.replicate 4097 (0 : UInt8)).toArray⟩) (w.alloc (.cells (bcells (List.replicate 4097 0)).toArray 5)) :=
  str_of_bytes _ ⟨w.heap.size, 0, none⟩ (List.replicate 4097 0) 4097 4097 (by rw [List.length_replicate]) (fun j v hj => by
    rw [Addr.add_lit, Nat.zero_add, cell_of_row _ w.heap.size j _ _ _ (heap_alloc_new w _), List.getElem?_toArray]
    exact hj)

abbrev sE : ByteArray := ⟨#[101]⟩
abbrev sX : ByteArray := ⟨#[120]⟩
abbrev sF : ByteArray := ⟨#[102]⟩
abbrev sH : ByteArray := ⟨#[104]⟩
abbrev sZ : ByteArray := ⟨#[122]⟩
abbrev sM : ByteArray := ⟨#[109]⟩
abbrev sMore : ByteArray := ⟨#[109, 111, 114, 101]⟩
abbrev sUp : ByteArray := ⟨#[46, 46]⟩
theorem okE : nameOk sE = true := by rw [nameOk, Lib.toList_data]; decide
theorem okX : nameOk sX = true := by rw [nameOk, Lib.toList_data]; decide
theorem okF : nameOk sF = true := by rw [nameOk, Lib.toList_data]; decide
theorem okH : nameOk sH = true := by rw [nameOk, Lib.toList_data]; decide
theorem okM : nameOk sM = true := by rw [nameOk, Lib.toList_data]; decide
theorem okMore : nameOk sMore = true := by rw [nameOk, Lib.toList_data]; decide
theorem noUp : nameOk sUp = false := by rw [nameOk, Lib.toList_data]; decide

theorem lk_free {L : List KV} {s : ByteArray} (h : ∀ p ∈ L, s ≠ p.1) : lk L s = none := by
  induction L with
  | nil => rfl
  | cons p L ih =>
    unfold lk
    rw [if_neg (h p (by simp))]
    exact ih (fun q hq => h q (by simp [hq]))

/-- The name of the i-th of many. -/
def b3 (i : Nat) : List UInt8 := [UInt8.ofNat (97 + i % 26), UInt8.ofNat (97 + i / 26 % 26), UInt8.ofNat (97 + i / 676)]
def nm3 (i : Nat) : ByteArray := ⟨(b3 i).toArray⟩
theorem u8_inj {a b : Nat} (ha : a < 256) (hb : b < 256) (h : UInt8.ofNat a = UInt8.ofNat b) : a = b := by
  have := congrArg UInt8.toNat h
  simp only [UInt8.toNat_ofNat'] at this
  omega
theorem nm3_inj {i j : Nat} (hi : i < 4096) (hj : j < 4096) (h : nm3 i = nm3 j) : i = j := by
  have h2 : b3 i = b3 j := by
    unfold nm3 at h
    injection h with h
    exact Array.toList_inj.2 h |> fun e => by simpa using e
  unfold b3 at h2
  simp only [List.cons.injEq, and_true] at h2
  have e1 := u8_inj (by omega) (by omega) h2.1
  have e2 := u8_inj (by omega) (by omega) h2.2.1
  have e3 := u8_inj (by omega) (by omega) h2.2.2
  omega
theorem u8_far {a : Nat} (h1 : 97 ≤ a) (h2 : a < 256) : ([0, 47] : List UInt8).contains (UInt8.ofNat a) = false := by
  have h0 : UInt8.ofNat a ≠ 0 := fun e => by
    have := congrArg UInt8.toNat e
    simp only [UInt8.toNat_ofNat'] at this
    have h3 : (0 : UInt8).toNat = 0 := rfl
    omega
  have h47 : UInt8.ofNat a ≠ 47 := fun e => by
    have := congrArg UInt8.toNat e
    simp only [UInt8.toNat_ofNat'] at this
    have h3 : (47 : UInt8).toNat = 47 := rfl
    omega
  simp [h0, h47]
theorem nm3_ok {i : Nat} (hi : i < 4096) : nameOk (nm3 i) = true := by
  have hd : (nm3 i).data.toList = b3 i := by simp [nm3]
  have hl : (nm3 i).toList = b3 i := by rw [Lib.toList_data, hd]
  have hz : (nm3 i).size = 3 := by show (nm3 i).data.size = 3; rw [← Array.length_toList, hd]; rfl
  have hx : Lib.indexAny (b3 i) [0, 47] = -1 := by
    unfold b3
    simp only [Lib.indexAny, u8_far (a := 97 + i % 26) (by omega) (by omega), u8_far (a := 97 + i / 26 % 26) (by omega) (by omega), u8_far (a := 97 + i / 676) (by omega) (by omega), Bool.false_eq_true, ↓reduceIte]
    rfl
  unfold nameOk
  rw [hl, hd, hz, hx]
  simp [b3]
def Lx (fn i : Nat) : List KV := (List.range i).map fun j => (nm3 j, Pt fn)
theorem Lx_len (fn i : Nat) : (Lx fn i).length = i := by simp [Lx]
theorem Lx_succ (fn i : Nat) : Lx fn (i + 1) = Lx fn i ++ [(nm3 i, Pt fn)] := by unfold Lx; rw [List.range_succ, List.map_append]; rfl
theorem Lx_lk {fn i : Nat} (hi : i < 4096) : lk (Lx fn i) (nm3 i) = none := lk_free fun p hp e => by
  unfold Lx at hp
  obtain ⟨j, hj, rfl⟩ := List.mem_map.1 hp
  have hj := List.mem_range.1 hj
  have := nm3_inj hi (by omega) e
  omega
theorem Lx_more (fn i : Nat) : lk (Lx fn i) sMore = none := lk_free fun p hp e => by
  unfold Lx at hp
  obtain ⟨j, hj, rfl⟩ := List.mem_map.1 hp
  have e := congrArg (fun s : ByteArray => s.data.toList.length) e
  simp [nm3, b3] at e
theorem rc_full {fn : Nat} {x : Option (Nat × Bool)} {l : List Nat} {hh : Nat} : rcode sMore (Lx fn 4096) x l hh = 4 := by
  unfold rcode
  rw [if_neg (by rw [okMore]; decide), if_neg (by rw [Lx_more]; decide), if_pos (by rw [Lx_len]; omega)]
theorem rc_bad {s : ByteArray} {L : List KV} {x : Option (Nat × Bool)} {l : List Nat} {hh : Nat} (h : nameOk s = false) : rcode s L x l hh = 190 := by
  unfold rcode
  rw [if_pos h]
theorem sort_two (v u : Value) : ∀ ss : List (List UInt8), ss.Perm ([(sA, v), (sE, u)].map fun p => p.1.data.toList) → (ss.mergeSort (fun x y => decide (x ≤ y))) = [sA, sE].map (fun s => s.data.toList) := fun ss h => by
  have h : ss.Perm [[97], [101]] := h
  show _ = [[97], [101]]
  have hl := h.length_eq
  match ss, hl, h with
  | [a, b], _, h =>
    have ha : a = [97] ∨ a = [101] := by have := h.mem_iff.1 (List.mem_cons_self (a := a) (l := [b])); simpa using this
    rcases ha with rfl | rfl
    · have h2 := (List.perm_cons [97]).1 h
      have : b = [101] := by simpa using List.perm_singleton.1 h2
      subst this
      simp [List.mergeSort, List.MergeSort.Internal.splitInTwo, List.merge]
      decide
    · have h2 : List.Perm [[101], b] [[101], [97]] := h.trans (List.Perm.swap _ _ _)
      have h2 := (List.perm_cons [101]).1 h2
      have : b = [97] := by simpa using List.perm_singleton.1 h2
      subst this
      simp [List.mergeSort, List.MergeSort.Internal.splitInTwo, List.merge]
      decide
end Go.Proofs.YtamngnndodjcoabGreat
