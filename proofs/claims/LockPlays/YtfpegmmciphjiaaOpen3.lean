/- Arguments opened: lists of steps, of bytes. -/
import Derived.Test.YtfpegmmciphjiaaOpen2
import Derived.Test.YtfpegmmciphjiaaStK
namespace Go.Proofs.Ytfpegmmciphjiaa
open Go.ChangeShapes Go.WideShapes Go.ChangeAt Go.RowKit Go.Joins

set_option maxRecDepth 20000
theorem cells27 : Try.prog.cellsOf 27 = 1 := by kernel_rfl
theorem cells31 : Try.prog.cellsOf 31 = 5 := by kernel_rfl

/-- A step's cells, opened. -/
theorem open_step {H : Type} {enc : TypeId × Value → H} {W : World} (fuel : Nat) (cs : List Value) (x : DataW H × List MemPlace) (h : DataW.trod enc Try.prog W 0 (fun _ => true) true fuel 31 cs = some x) : ∃ s : Sp, (cs = .int .i8 s.d :: lkc s.l ∧ InR s.l) ∧ cs.length = 5 := by
  obtain ⟨y0, y1, k, rfl, hcl, g0, g1⟩ := trod_struct2 Try.underlying31 h
  rw [cells31] at hcl
  obtain ⟨a, e0, -, -⟩ := DataW.trod_int Try.underlying27 g0
  obtain ⟨l, ⟨e1, hl⟩, -⟩ := open_lk _ _ _ g1
  match cs, hcl with
  | [q0, q1, q2, q3, q4], _ =>
    simp only [cells27, cells29] at e0 e1
    simp [lkc] at e0 e1
    obtain ⟨rfl, rfl, rfl, rfl⟩ := e1
    subst e0
    exact ⟨⟨a, l⟩, ⟨rfl, hl⟩, rfl⟩

/-- A list of steps, opened. -/
theorem open_steps {H : Type} {enc : TypeId × Value → H} {W : World} {base : Nat} {r : Reach} {v : Value} {d : DataW H} {p : List MemPlace} (hv : Value.okWide Try.prog W r base 22 v) (h : DataW.Trod enc Try.prog W 0 (fun _ => true) true 22 v d p) :
    ∃ (a : Option Addr) (c : Nat) (ss : List Sp), v = .slice a ss.length c ∧ SpsAt W a ss ∧ ∀ s ∈ ss, InR s.l := by
  obtain ⟨x0, x1, x2, rfl⟩ := okWide_slice Try.underlying22 hv
  obtain ⟨fuel, hf⟩ := h
  obtain ⟨a, c, zs, he, hz, hi⟩ := open_list Try.underlying22 cells31 (by decide) (fun (s : Sp) cs => cs = .int .i8 s.d :: lkc s.l ∧ InR s.l) open_step hf
  refine ⟨a, c, zs, he, fun hne => ?_, fun l hl => ?_⟩
  · obtain ⟨g, o, rfl, hc⟩ := hz hne
    refine ⟨g, o, rfl, fun j s hj => ?_⟩
    obtain ⟨cs, ⟨rfl, -⟩, -, hk⟩ := hc j s hj
    exact ⟨hk 0 (by decide), hk 1 (by decide), hk 2 (by decide), hk 3 (by decide), hk 4 (by decide)⟩
  · obtain ⟨cs, -, h2⟩ := hi l hl
    exact h2
end Go.Proofs.Ytfpegmmciphjiaa
