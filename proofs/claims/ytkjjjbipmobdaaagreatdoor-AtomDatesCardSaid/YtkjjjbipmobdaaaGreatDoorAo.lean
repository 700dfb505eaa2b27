/- An array of three numbers that came in, out of a row's argument. -/
import Derived.Test.YtkjjjbipmobdaaaGreatDoorBR01
import Derived.Laws.IdiomArrays
namespace Go.Proofs.YtkjjjbipmobdaaaGreatDoor
open Go.ChangeShapes Go.WideShapes Go.ChangeAt Go.RowKit

theorem open_arr3 {H : Type} {enc : TypeId × Value → H} {P : Program} {W : World} {base : Nat} {sp : Nat → Bool} {held : Bool} {r : Reach} {b0 : Nat} {t e : TypeId} {k : IntKind} {v : Value} {d : DataW H} {ps : List MemPlace}
    (ht : P.underlying t = some (.array 3 e)) (he : P.underlying e = some (.int k)) (hce : P.cellsOf e = 1) (hct : P.cellsOf t = 3) (hval : Value.okWide P W r b0 t v) (hd : DataW.Trod enc P W base sp held t v d ps) :
    ∃ x y z, v = .agg #[.int k x, .int k y, .int k z] ∧ d = .agg [.lit (.int k x), .lit (.int k y), .lit (.int k z)] ∧ ps = [] ∧ (Lit.int k x).wf = true ∧ (Lit.int k y).wf = true ∧ (Lit.int k z).wf = true := by
  simp only [Value.okWide, ht] at hval
  obtain ⟨cs, rfl, hs, _⟩ := hval
  rw [hct] at hs
  obtain ⟨cl⟩ := cs
  match cl, hs with
  | [c0, c1, c2], _ =>
    obtain ⟨fuel, hf⟩ := hd
    obtain ⟨y0, y1, y2, n, hx, h0, h1, h2⟩ := trod_array3 (c0 := c0) (c1 := c1) (c2 := c2) ht hce (by simpa [Value.cells] using hf)
    obtain ⟨a, e0, rfl, w0⟩ := DataW.trod_int he h0
    obtain ⟨b, e1, rfl, w1⟩ := DataW.trod_int he h1
    obtain ⟨c, e2, rfl, w2⟩ := DataW.trod_int he h2
    simp only [List.cons.injEq, and_true] at e0 e1 e2
    subst e0 e1 e2
    simp only [Prod.mk.injEq] at hx
    exact ⟨a, b, c, rfl, hx.1, hx.2, w0, w1, w2⟩
theorem wf_u8 {n : Int} (h : (Lit.int .u8 n).wf = true) : 0 ≤ n ∧ n ≤ 255 := bounds_u8 h
end Go.Proofs.YtkjjjbipmobdaaaGreatDoor
