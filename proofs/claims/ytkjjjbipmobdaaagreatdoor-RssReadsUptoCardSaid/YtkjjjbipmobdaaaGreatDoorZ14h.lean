/- What the rows of layer 14 share: what the three listed variables hold. -/
import Derived.Test.YtkjjjbipmobdaaaGreatDoorTie
import Derived.Test.YtkjjjbipmobdaaaGreatDoorCards
import Derived.Test.YtkjjjbipmobdaaaGreatDoorBR01
import Derived.Test.YtkjjjbipmobdaaaGreatDoorBR02
import Derived.Test.YtkjjjbipmobdaaaGreatDoorBR03
import Derived.Test.YtkjjjbipmobdaaaGreatDoorD14s
import Derived.Shelf.Vars
import Derived.Deep.DeepWitnessRowRef
namespace Go.Proofs.YtkjjjbipmobdaaaGreatDoor
open Go.ChangeShapes Go.WideShapes Go.ChangeAt Go.RowKit

abbrev doorSteps : Nat := 400
theorem door_met (os : Os) (args : Array Value) : laidMetH Tryz.prog Rows.rssReadsRow.laid ((World.doorLaid Tryz.prog doorSteps os).forCall (fun _ _ => 0) ⟨#[], args, []⟩).memory :=
  laidMetH_of_parts3 (fuel := 8) (laidMet_of_run' 8 (by kernel_rfl) (by kernel_rfl)) (by kernel_rfl) (by kernel_rfl)
theorem g_et : Tryz.prog.globalNamed "errors.errorType" = some 0 := by kernel_rfl
theorem g_wk : Tryz.prog.globalNamed "newsreel/date.weekdays" = some 1 := by kernel_rfl
theorem g_mon : Tryz.prog.globalNamed "newsreel/date.months" = some 2 := by kernel_rfl
theorem gt_wk : (Tryz.prog.globals[1]?).map (·.type) = some 168 := by kernel_rfl
theorem gt_mon : (Tryz.prog.globals[2]?).map (·.type) = some 169 := by kernel_rfl
theorem rt_row : (Tryz.prog.cutTypes.find? (·.1 == "internal/reflectlite.rtype")).map (·.2) = some 136 := by kernel_rfl
theorem err_row : ((List.range Tryz.prog.types.size).filter fun t => Tryz.prog.rowNamed t [101, 114, 114, 111, 114]) = [26] := by kernel_rfl
theorem ty_of_row {W : World} (h : laidMetH Tryz.prog Rows.rssReadsRow.laid W) : EnvT W := by
  have h' : laidMet Tryz.prog [("newsreel/date.weekdays", Rows.laid_newsreel_date_weekdays), ("newsreel/date.months", Rows.laid_newsreel_date_months)] W ∧ handlesMet Tryz.prog [("errors.errorType", Rows.laid_errors_errorType)] W := h
  obtain ⟨name, u, ty, e1, e2, e3, e4, e5⟩ := h'.2 _ (List.mem_singleton.2 rfl)
  have en : name = [101, 114, 114, 111, 114] := (Option.some.inj e1).symm
  subst en
  obtain rfl := Option.some.inj (rt_row.symm.trans e2)
  have hm : ty ∈ (List.range Tryz.prog.types.size).filter fun t => Tryz.prog.rowNamed t [101, 114, 114, 111, 114] := List.mem_filter.2 ⟨List.mem_range.2 e3, e4⟩
  rw [err_row] at hm
  obtain rfl := List.mem_singleton.1 hm
  have hh : typeHandle Tryz.prog 26 = .pointer (some ⟨4, 26, none⟩) := by kernel_rfl
  rw [hh] at e5
  have := World.var?_cell g_et e5 0
  unfold EnvT
  simpa using this
theorem env_of_row {W : World} (h : laidMetH Tryz.prog Rows.rssReadsRow.laid W) : Env13 W := by
  have h' : laidMet Tryz.prog [("newsreel/date.weekdays", Rows.laid_newsreel_date_weekdays), ("newsreel/date.months", Rows.laid_newsreel_date_months)] W ∧ handlesMet Tryz.prog [("errors.errorType", Rows.laid_errors_errorType)] W := h
  exact ⟨range_of_laid h'.1 (.tail _ (.head _)) g_mon gt_mon Tryz.underlying169 Tryz.underlying9 (by kernel_rfl) (by kernel_rfl),
    range_of_laid h'.1 (.head _) g_wk gt_wk Tryz.underlying168 Tryz.underlying9 (by kernel_rfl) (by kernel_rfl)⟩
theorem laid14_of_row {W : World} (h : laidMetH Tryz.prog Rows.rssReadsRow.laid W) : ∃ _A : Nat, Laid14 W := ⟨0, ty_of_row h, env_of_row h⟩
end Go.Proofs.YtkjjjbipmobdaaaGreatDoor
