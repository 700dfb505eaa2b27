/- What the row of PrintBack asks: what the listed variables hold. -/
import Derived.Test.YtahohmdbiiknoaaGreatDoorTie
import Derived.Test.YtahohmdbiiknoaaGreatDoorCards
import Derived.Test.YtahohmdbiiknoaaGreatDoorBR36
import Derived.Test.YtahohmdbiiknoaaGreatDoorIo
import Derived.Test.YtahohmdbiiknoaaGreatDoorD17s
import Derived.Deep.DeepWitnessRowRef
namespace Go.Proofs.YtahohmdbiiknoaaGreatDoor
open Go.ChangeShapes Go.WideShapes Go.ChangeAt Go.RowKit

abbrev doorSteps : Nat := 400
theorem door_met (os : Os) (args : Array Value) : laidMetH Tryz.prog Rows.printBackRow.laid ((World.doorLaid Tryz.prog doorSteps os).forCall (fun _ _ => 0) ⟨#[], args, []⟩).memory :=
  laidMetH_of_parts3 (fuel := 8) (laidMet_of_run' 8 (by kernel_rfl) (by kernel_rfl)) (by kernel_rfl) (by kernel_rfl)
theorem g_wk : Tryz.prog.globalNamed "newsreel/date.weekdays" = some 0 := by kernel_rfl
theorem g_mon : Tryz.prog.globalNamed "newsreel/date.months" = some 1 := by kernel_rfl
theorem gt_wk : (Tryz.prog.globals[0]?).map (·.type) = some 89 := by kernel_rfl
theorem gt_mon : (Tryz.prog.globals[1]?).map (·.type) = some 90 := by kernel_rfl
theorem gt_pow : (Tryz.prog.globals[2]?).map (·.type) = some 126 := by kernel_rfl
theorem env_of_row {W : World} (h : laidMetH Tryz.prog Rows.printBackRow.laid W) : Env13 W := by
  rw [MakeChecks.laidMetH_plain _ _ _ (by kernel_rfl)] at h
  exact ⟨range_of_laid h (.tail _ (.tail _ (.tail _ (.tail _ (.head _))))) g_mon gt_mon Tryz.underlying90 Tryz.underlying9 (by kernel_rfl) (by kernel_rfl),
    range_of_laid h (.tail _ (.tail _ (.tail _ (.head _)))) g_wk gt_wk Tryz.underlying89 Tryz.underlying9 (by kernel_rfl) (by kernel_rfl),
    tab_of_laid13 h (.tail _ (.tail _ (.head _))) g_pow gt_pow Tryz.underlying126 Tryz.underlying120 (by kernel_rfl) (by kernel_rfl)⟩
theorem laid17_of_row {W : World} (h : laidMetH Tryz.prog Rows.printBackRow.laid W) : ∃ _A : Nat, Env13 W := ⟨0, env_of_row h⟩
end Go.Proofs.YtahohmdbiiknoaaGreatDoor
