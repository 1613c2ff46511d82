/- NodeKeeps: two directories, a file and its handle beside each other. -/
import Derived.Test.YtamngnndodjcoaaGreatRd2
import Derived.Test.YtamngnndodjcoaaGreatNms
namespace Go.Proofs.YtamngnndodjcoaaGreat
open Go.RowKit

structure Kp (w0 w : World) (A B C : Nat) (l : List UInt8) (h fb mo nb db mb n2 d2 m2 fn ff : Nat) (u1 : Value) (L1 : List KV) (u2 : Value) (L2 : List KV) : Prop where
  all : AllT 53 w h fb ⟨mo, 0, none⟩
  my : My w mo l
  dd : Dr w nb db mb u1 L1
  ee : Dr w n2 d2 m2 u2 L2
  fl : Fl w fn ff h
  bel : Below w0.heap.size w0 w
  nh : w0.heap.size ≤ mo ∧ mo < h ∧ mo < fb ∧ h < A ∧ fb < A
  nd : A ≤ nb ∧ A ≤ db ∧ A ≤ mb ∧ nb < B ∧ db < B ∧ mb < B
  ne : B ≤ n2 ∧ B ≤ d2 ∧ B ≤ m2 ∧ n2 < C ∧ d2 < C ∧ m2 < C
  nf : C ≤ fn ∧ C ≤ ff
section
variable {w0 w w' : World} {A B C : Nat} {l : List UInt8} {h fb mo nb db mb n2 d2 m2 fn ff : Nat} {u1 u2 u1' u2' : Value} {L1 L2 L1' L2' : List KV}
theorem Kp.hn (k : Kp w0 w A B C l h fb mo nb db mb n2 d2 m2 fn ff u1 L1 u2 L2) : Hn w h mo l := ⟨⟨fb, k.nh.2.2.1, k.all⟩, k.nh.2.1, k.my⟩
theorem Kp.step (k : Kp w0 w A B C l h fb mo nb db mb n2 d2 m2 fn ff u1 L1 u2 L2) {F : Nat → Prop} (u : Upd F w w') (hF : ∀ x, F x → x = mb ∨ x = m2 ∨ x = db ∨ x = d2) (hD : Dr w' nb db mb u1' L1') (hE : Dr w' n2 d2 m2 u2' L2') : Kp w0 w' A B C l h fb mo nb db mb n2 d2 m2 fn ff u1' L1' u2' L2' := by
  obtain ⟨a1, a2, a3, a4, a5⟩ := k.nh
  obtain ⟨b1, b2, b3, b4, b5, b6⟩ := k.nd
  obtain ⟨c1, c2, c3, c4, c5, c6⟩ := k.ne
  obtain ⟨e1, e2⟩ := k.nf
  refine ⟨k.all.upd u (fun e => by rcases hF _ e with e | e | e | e <;> omega) (fun e => by rcases hF _ e with e | e | e | e <;> omega), k.my.upd u (fun x hx e => by rcases hF _ e with e | e | e | e <;> omega), hD, hE, k.fl.upd u (fun e => by rcases hF _ e with e | e | e | e <;> omega) (fun e => by rcases hF _ e with e | e | e | e <;> omega), k.bel.trans (u.below k.bel.size (fun x e => by rcases hF _ e with e | e | e | e <;> omega)), k.nh, k.nd, k.ne, k.nf⟩
theorem Kp.below (k : Kp w0 w A B C l h fb mo nb db mb n2 d2 m2 fn ff u1 L1 u2 L2) (b : Below w.heap.size w w') : Kp w0 w' A B C l h fb mo nb db mb n2 d2 m2 fn ff u1 L1 u2 L2 :=
  ⟨k.all.below b, k.my.below b, k.dd.below b, k.ee.below b, k.fl.below b, below_tr k.bel b, k.nh, k.nd, k.ne, k.nf⟩
theorem Kp.stepD (k : Kp w0 w A B C l h fb mo nb db mb n2 d2 m2 fn ff u1 L1 u2 L2) (u : Upd (fun x => x = mb) w w') (hD : Dr w' nb db mb u1' L1') : Kp w0 w' A B C l h fb mo nb db mb n2 d2 m2 fn ff u1' L1' u2 L2 := by
  obtain ⟨b1, b2, b3, b4, b5, b6⟩ := k.nd
  obtain ⟨c1, c2, c3, c4, c5, c6⟩ := k.ne
  exact k.step u (fun x e => .inl e) hD (k.ee.upd u (fun e => by have e : n2 = mb := e; omega) (fun e => by have e : d2 = mb := e; omega) (fun e => by have e : m2 = mb := e; omega))
theorem Kp.stepE (k : Kp w0 w A B C l h fb mo nb db mb n2 d2 m2 fn ff u1 L1 u2 L2) (u : Upd (fun x => x = m2) w w') (hE : Dr w' n2 d2 m2 u2' L2') : Kp w0 w' A B C l h fb mo nb db mb n2 d2 m2 fn ff u1 L1 u2' L2' := by
  obtain ⟨b1, b2, b3, b4, b5, b6⟩ := k.nd
  obtain ⟨c1, c2, c3, c4, c5, c6⟩ := k.ne
  exact k.step u (fun x e => .inr (.inl e)) (k.dd.upd u (fun e => by have e : nb = m2 := e; omega) (fun e => by have e : db = m2 := e; omega) (fun e => by have e : mb = m2 := e; omega)) hE
theorem Kp.read (k : Kp w0 w A B C l h fb mo nb db mb n2 d2 m2 fn ff u1 L1 u2 L2) (u : Upd (fun x => x = mo) w w') (hH : Hn w' h mo l) : Kp w0 w' A B C l h fb mo nb db mb n2 d2 m2 fn ff u1 L1 u2 L2 := by
  obtain ⟨a1, a2, a3, a4, a5⟩ := k.nh
  obtain ⟨b1, b2, b3, b4, b5, b6⟩ := k.nd
  obtain ⟨c1, c2, c3, c4, c5, c6⟩ := k.ne
  obtain ⟨e1, e2⟩ := k.nf
  exact ⟨k.all.upd u (fun e => by have e : h = mo := e; omega) (fun e => by have e : fb = mo := e; omega), hH.my, k.dd.upd u (fun e => by have e : nb = mo := e; omega) (fun e => by have e : db = mo := e; omega) (fun e => by have e : mb = mo := e; omega), k.ee.upd u (fun e => by have e : n2 = mo := e; omega) (fun e => by have e : d2 = mo := e; omega) (fun e => by have e : m2 = mo := e; omega), k.fl.upd u (fun e => by have e : fn = mo := e; omega) (fun e => by have e : ff = mo := e; omega), k.bel.trans (u.below k.bel.size (fun x e => by have e : x = mo := e; omega)), k.nh, k.nd, k.ne, k.nf⟩
end
/-- Heights: one for the second directory, nought for all else. -/
def hgt (n2 : Nat) (k : Nat) : Value → Nat
  | .pointer (some a) => if a.block = n2 then k else 0
  | _ => 0
theorem hgt_yes (n2 k : Nat) : hgt n2 k (Pt n2) = k := if_pos rfl
theorem hgt_no (n2 k m : Nat) (h : m ≠ n2) : hgt n2 k (Pt m) = 0 := if_neg h

theorem rc_of {name : ByteArray} {L : List KV} {x : Option (Nat × Bool)} {l : List Nat} {hh : Nat} (h1 : nameOk name = true) (h2 : lk L name = none) (h3 : L.length < 4096) : rcode name L x l hh = xcode x l hh := by
  unfold rcode
  rw [if_neg (by rw [h1]; decide), if_neg (by rw [h2]; decide), if_neg (by omega)]
theorem rc_there {name : ByteArray} {L : List KV} {x : Option (Nat × Bool)} {l : List Nat} {hh : Nat} {v : Value} (h1 : nameOk name = true) (h2 : lk L name = some v) : rcode name L x l hh = 191 := by
  unfold rcode
  rw [if_neg (by rw [h1]; decide), if_pos (by rw [h2]; rfl)]
/-- Whatever the name: not, where it would lie below itself. -/
theorem rc_loop {name : ByteArray} {L : List KV} {d : Nat} {s : Bool} {l : List Nat} {hh : Nat} (h : d ∈ l) : rcode name L (some (d, s)) l hh ≠ 0 := by
  unfold rcode
  split
  · omega
  · split
    · omega
    · split
      · omega
      · unfold xcode
        simp only
        rw [if_pos h]
        omega
theorem lk_two {a b : ByteArray} {v u : Value} (h : b ≠ a) : lk [(a, v), (b, u)] b = some u := by
  unfold lk
  rw [if_neg h]
  exact lk_one b u
theorem lk_first {a : ByteArray} {v : Value} {L : List KV} : lk ((a, v) :: L) a = some v := by unfold lk; rw [if_pos rfl]
theorem lk_other {a b : ByteArray} {v : Value} (h : b ≠ a) : lk [(a, v)] b = none := by unfold lk; rw [if_neg h]; rfl
theorem del_first {a : ByteArray} {v : Value} {L : List KV} : del ((a, v) :: L) a = L := by unfold del; rw [if_pos rfl]
end Go.Proofs.YtamngnndodjcoaaGreat
