/- A struct of numbers that came in, out of a row's argument. -/
import Derived.Test.YtkgjbamkinfmeaaGreatDoorBR33
namespace Go.Proofs.YtkgjbamkinfmeaaGreatDoor
open Go.ChangeShapes Go.WideShapes Go.ChangeAt Go.RowKit

theorem open_numbers {H : Type} {enc : TypeId × Value → H} {P : Program} {W : World} {base : Nat} {sp : Nat → Bool} {held : Bool} {r : Reach} {b0 : Nat} {t : TypeId} {fs : Array Field} {k : IntKind} {v : Value} {d : DataW H} {ps : List MemPlace}
    (ht : P.underlying t = some (.struct fs)) (hf : ∀ (i : Nat) (f : Field), fs[i]? = some f → P.underlying f.type = some (.int k) ∧ f.offset = i ∧ P.cellsOf f.type = 1) (hct : P.cellsOf t = fs.size) (hval : Value.okWide P W r b0 t v) (hd : DataW.Trod enc P W base sp held t v d ps) :
    ∃ xs : List Int, xs.length = fs.size ∧ v = .agg (xs.map (Value.int k)).toArray ∧ d = .agg (xs.map fun x => .lit (.int k x)) ∧ ps = [] := by
  obtain ⟨cs, rfl, hs⟩ := okWide_struct ht hval
  rw [hct] at hs
  obtain ⟨fuel, hfu⟩ := hd
  obtain ⟨ys, n, _, hx, _, hlen, hff⟩ := DataW.trod_struct ht hfu
  have hcs : (Value.agg cs).cells.toList = cs.toList := by simp [Value.cells]
  have hone : ∀ i, i < fs.size → ∃ z : Int, cs.toList[i]? = some (.int k z) ∧ ys[i]? = some (.lit (.int k z), []) := fun i hi => by
    obtain ⟨h1, h2, h3⟩ := hf i fs[i] (by simp [hi])
    have h4 := hff i fs[i] (by simp [hi])
    rw [h2, h3] at h4
    have hyi : ys[i]? = some (ys[i]'(by omega)) := List.getElem?_eq_getElem (by omega)
    rw [hyi] at h4
    obtain ⟨z, e0, e1, _⟩ := DataW.trod_int h1 h4
    refine ⟨z, ?_, by rw [hyi, e1]⟩
    have := congrArg (·[0]?) e0
    simpa [List.getElem?_take, List.getElem?_drop, Value.cells] using this
  let xs := cs.toList.map intOf
  have hl : xs.length = fs.size := by simp [xs, hs]
  have hv : cs.toList = xs.map (Value.int k) := by
    apply List.ext_getElem?
    intro i
    by_cases hi : i < fs.size
    · obtain ⟨z, h1, _⟩ := hone i hi
      rw [List.getElem?_map, show xs[i]? = some z by simp only [xs, List.getElem?_map, h1]; rfl, h1]
      rfl
    · rw [List.getElem?_eq_none (by simp [hs]; omega), List.getElem?_eq_none (by simp [hl]; omega)]
  have hy : ys = xs.map fun x => ((.lit (.int k x), []) : DataW H × List MemPlace) := by
    apply List.ext_getElem?
    intro i
    by_cases hi : i < fs.size
    · obtain ⟨z, h1, h2⟩ := hone i hi
      rw [List.getElem?_map, show xs[i]? = some z by simp only [xs, List.getElem?_map, h1]; rfl, h2]
      rfl
    · rw [List.getElem?_eq_none (by omega), List.getElem?_eq_none (by simp [hl]; omega)]
  simp only [Prod.mk.injEq] at hx
  refine ⟨xs, hl, ?_, ?_, ?_⟩
  · rw [← hv]
  · rw [hx.1, hy, List.map_map]; rfl
  · rw [hx.2, hy]; simp [List.flatMap_map]
end Go.Proofs.YtkgjbamkinfmeaaGreatDoor
