/- Sums of bytes: one to one in each byte. -/
import Derived.Laws.Bits64
import Derived.ProofKit
namespace Go.Proofs.Ytoagjgcpgpjjeaa

/-- One step of the sum. -/
def stp (s : Nat) (x : UInt8) : Nat := ((s ^^^ x.toNat) * 1099511628211) % 18446744073709551616
/-- The sum of bytes, from s on. -/
def fnv (s : Nat) (l : List UInt8) : Nat := l.foldl stp s
def fnv0 (l : List UInt8) : Nat := fnv 14695981039346656037 l

theorem stp_lt (s : Nat) (x : UInt8) : stp s x < 18446744073709551616 := Nat.mod_lt _ (by decide)
theorem fnv_lt {s : Nat} (l : List UInt8) (h : s < 18446744073709551616) : fnv s l < 18446744073709551616 := by
  induction l generalizing s with
  | nil => exact h
  | cons x l ih => exact ih (stp_lt s x)
theorem fnv0_lt (l : List UInt8) : fnv0 l < 18446744073709551616 := fnv_lt l (by decide)
theorem fnv_snoc (s : Nat) (l : List UInt8) (x : UInt8) : fnv s (l ++ [x]) = stp (fnv s l) x := by unfold fnv; rw [List.foldl_append, List.foldl_cons, List.foldl_nil]
theorem fnv0_take_succ {l : List UInt8} {k : Nat} {x : UInt8} (h : l[k]? = some x) : fnv0 (l.take (k + 1)) = stp (fnv0 (l.take k)) x := by
  rw [List.take_add_one, h]; exact fnv_snoc _ _ _

theorem mul_inj {a b : Nat} (ha : a < 18446744073709551616) (hb : b < 18446744073709551616) (h : a * 1099511628211 % 18446744073709551616 = b * 1099511628211 % 18446744073709551616) : a = b := by
  have key : ∀ c : Nat, c < 18446744073709551616 → c * 1099511628211 % 18446744073709551616 * 14886173955864302971 % 18446744073709551616 = c := by
    intro c hc
    have e : 1099511628211 * 14886173955864302971 = 887285111055 * 18446744073709551616 + 1 := by decide
    have e1 : c * 1099511628211 % 18446744073709551616 * 14886173955864302971 % 18446744073709551616 = c * 1099511628211 * 14886173955864302971 % 18446744073709551616 := by
      rw [Nat.mul_mod, Nat.mod_mod, ← Nat.mul_mod]
    rw [e1, Nat.mul_assoc, e, Nat.mul_add, Nat.mul_one, ← Nat.mul_assoc, Nat.mul_comm (c * 887285111055), Nat.mul_add_mod, Nat.mod_eq_of_lt hc]
  rw [← key a ha, ← key b hb, h]

theorem xor_lt {a b : Nat} (ha : a < 18446744073709551616) (hb : b < 256) : a ^^^ b < 18446744073709551616 :=
  Nat.xor_lt_two_pow (n := 64) ha (Nat.lt_of_lt_of_le hb (by decide))
theorem byte_lt (x : UInt8) : x.toNat < 256 := x.toNat_lt

theorem xor_left {a b x : Nat} (h : a ^^^ x = b ^^^ x) : a = b := by
  have h1 := congrArg (· ^^^ x) h
  simpa only [Nat.xor_assoc, Nat.xor_self, Nat.xor_zero] using h1
theorem xor_right {a b x : Nat} (h : x ^^^ a = x ^^^ b) : a = b := xor_left (x := x) (by rw [Nat.xor_comm a, Nat.xor_comm b, h])
theorem stp_left {s t : Nat} {x : UInt8} (hs : s < 18446744073709551616) (ht : t < 18446744073709551616) (h : stp s x = stp t x) : s = t := by
  have h1 := mul_inj (xor_lt hs (byte_lt x)) (xor_lt ht (byte_lt x)) h
  exact xor_left h1
theorem stp_right {s : Nat} {x y : UInt8} (hs : s < 18446744073709551616) (h : stp s x = stp s y) : x = y := by
  have h1 := mul_inj (xor_lt hs (byte_lt x)) (xor_lt hs (byte_lt y)) h
  exact UInt8.toNat_inj.1 (xor_right h1)
theorem fnv_left {s t : Nat} (l : List UInt8) (hs : s < 18446744073709551616) (ht : t < 18446744073709551616) (h : fnv s l = fnv t l) : s = t := by
  induction l generalizing s t with
  | nil => exact h
  | cons x l ih => exact stp_left hs ht (ih (stp_lt s x) (stp_lt t x) h)
theorem fnv_set {l : List UInt8} {s k : Nat} {b x : UInt8} (hs : s < 18446744073709551616) (hk : l[k]? = some b) : fnv s l = fnv s (l.set k x) ↔ b = x := by
  induction l generalizing s k with
  | nil => simp at hk
  | cons y l ih =>
    cases k with
    | zero =>
      simp only [List.getElem?_cons_zero, Option.some.injEq] at hk
      subst hk
      refine ⟨fun h => stp_right hs (fnv_left l (stp_lt s _) (stp_lt s _) h), fun h => by subst h; rfl⟩
    | succ k => exact ih (stp_lt s y) (by simpa using hk)

/-- The step as the program does it. -/
theorem stp_run (s : Nat) (x : UInt8) (hs : s < 18446744073709551616) : IntKind.u64.wrap (bits .xor .u64 (s : Int) (x.toNat : Int) * 1099511628211) = ((stp s x : Nat) : Int) := by
  rw [bits_xor_u64_nat s x.toNat hs (Nat.lt_of_lt_of_le (byte_lt x) (by decide)), IntKind.wrap_u64]
  unfold stp
  omega
end Go.Proofs.Ytoagjgcpgpjjeaa
