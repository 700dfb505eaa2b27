/- An array of texts that a row lists: its cells. -/
import Derived.Lib.LaidTab
import Derived.Test.YtjkppdjgacnfbaaDoorLaid
import Derived.Test.YtjkppdjgacnfbaaDoorAr
import Derived.Test.YtjkppdjgacnfbaaDoorSl
namespace Go.Proofs.YtjkppdjgacnfbaaDoor
open Go.ChangeShapes Go.WideShapes Go.ChangeAt Go.RowKit

/-- Texts as a row lists them: an array. -/
def strD {H : Type} (L : List (List UInt8)) : DataW H := .agg (L.map fun s => .lit (.string s))
theorem cells_of_strs {H : Type} {enc : TypeId × Value → H} {P : Program} {w : World} {base : Nat} {sp : Nat → Bool} {held : Bool} {fuel : Nat} {t e : TypeId} {n : Nat} {cs : List Value} {L : List (List UInt8)} {p : List MemPlace}
    (ht : P.underlying t = some (.array n e)) (he : P.underlying e = some .string) (hce : P.cellsOf e = 1) (hct : P.cellsOf t = n)
    (h : DataW.trod enc P w base sp held fuel t cs = some (strD L, p)) : cs = L.map strV := by
  cases fuel with
  | zero => simp [DataW.trod] at h
  | succ fuel =>
    simp only [DataW.trod, ht, hce, hct, Nat.mul_one] at h
    split at h
    · obtain ⟨xs, hm, hx⟩ := Option.map_eq_some_iff.1 h
      have hxs : xs.map (·.1) = L.map fun s => (DataW.lit (.string s) : DataW H) := by
        have := congrArg Prod.fst hx
        simpa [strD] using this
      have hxl : xs.length = n := by simpa using Lib.mapM_length hm
      have hzl : L.length = n := by
        have := congrArg List.length hxs
        simp at this
        omega
      apply List.ext_getElem?
      intro i
      by_cases hi : i < n
      · obtain ⟨b, hb, hf⟩ := Lib.mapM_at hm i i (by simp [hi])
        obtain ⟨s, hc, rfl, _⟩ := DataW.trod_string he hf
        have h1 : cs[i]? = some (.string s) := by
          have := congrArg (·[0]?) hc
          simpa [List.getElem?_take, List.getElem?_drop] using this
        have h2 : (xs.map (·.1))[i]? = some (DataW.lit (.string s.data.toList) : DataW H) := by simp [hb]
        rw [hxs] at h2
        simp only [List.getElem?_map, Option.map_eq_some_iff, DataW.lit.injEq, Lit.string.injEq] at h2
        obtain ⟨z, hz, ez⟩ := h2
        subst ez
        rw [h1, List.getElem?_map, hz]
        rfl
      · rw [List.getElem?_eq_none (by omega), List.getElem?_eq_none (by simp; omega)]
    · cases h
/-- A listed array of texts lies in memory. -/
theorem range_of_laid {P : Program} {l : List (String × DataW Unit)} {W : World} (h : laidMet P l W) {nm : String} {L : List (List UInt8)} (hm : (nm, strD L) ∈ l) {g t e n : Nat} (hg : P.globalNamed nm = some g) (ht : (P.globals[g]?).map (·.type) = some t)
    (hu : P.underlying t = some (.array n e)) (he : P.underlying e = some .string) (hce : P.cellsOf e = 1) (hct : P.cellsOf t = n) : W.rangeAt g 0 (L.map strV) := by
  obtain ⟨cs, fuel, p, hv, hd⟩ := laid_one h hm hg ht
  have hc := cells_of_strs hu he hce hct hd
  intro j v hj
  have := World.var?_cell hg hv j
  rw [Nat.zero_add, this, ← hj, ← hc]
  simp
/-- A listed array of integers is a table. -/
theorem tab_of_laid13 {P : Program} {l : List (String × DataW Unit)} {W : World} (h : laidMet P l W) {nm : String} {k : IntKind} {zs : List Int} (hm : (nm, Lib.tabData k zs) ∈ l) {g t e n : Nat} (hg : P.globalNamed nm = some g) (ht : (P.globals[g]?).map (·.type) = some t)
    (hu : P.underlying t = some (.array n e)) (he : P.underlying e = some (.int k)) (hce : P.cellsOf e = 1) (hct : P.cellsOf t = n) : Lib.TabIs P W nm k zs := by
  obtain ⟨cs, fuel, p, hv, hd⟩ := laid_one h hm hg ht
  unfold Lib.TabIs
  rw [hv, ← Lib.cells_of_tab hu he hce hct hd]
end Go.Proofs.YtjkppdjgacnfbaaDoor
