/- What the rows of layer 17 share: what the listed variables hold. -/
import Derived.Test.YtahohmdbiiknoaaDoorTie
import Derived.Test.YtahohmdbiiknoaaDoorCards
import Derived.Test.YtahohmdbiiknoaaDoorBR16
import Derived.Test.YtahohmdbiiknoaaDoorIo
import Derived.Test.YtahohmdbiiknoaaDoorD17q
import Derived.Deep.DeepWitnessRowRef
namespace Go.Proofs.YtahohmdbiiknoaaDoor
open Go.ChangeShapes Go.WideShapes Go.ChangeAt Go.RowKit

abbrev doorSteps : Nat := 400
theorem door_met (os : Os) (args : Array Value) : laidMetH Tryd.prog Rows.printTellsRow.laid ((World.doorLaid Tryd.prog doorSteps os).forCall (fun _ _ => 0) ⟨#[], args, []⟩).memory :=
  laidMetH_of_parts3 (fuel := 8) (laidMet_of_run' 8 (by kernel_rfl) (by kernel_rfl)) (by kernel_rfl) (by kernel_rfl)
theorem g_wk : Tryd.prog.globalNamed "newsreel/date.weekdays" = some 0 := by kernel_rfl
theorem g_mon : Tryd.prog.globalNamed "newsreel/date.months" = some 1 := by kernel_rfl
theorem gt_wk : (Tryd.prog.globals[0]?).map (·.type) = some 46 := by kernel_rfl
theorem gt_mon : (Tryd.prog.globals[1]?).map (·.type) = some 47 := by kernel_rfl
theorem gt_pow : (Tryd.prog.globals[2]?).map (·.type) = some 62 := by kernel_rfl
theorem env_of_row {W : World} (h : laidMetH Tryd.prog Rows.printTellsRow.laid W) : Env13 W := by
  rw [MakeChecks.laidMetH_plain _ _ _ (by kernel_rfl)] at h
  exact ⟨range_of_laid h (.tail _ (.tail _ (.tail _ (.tail _ (.head _))))) g_mon gt_mon Tryd.underlying47 Tryd.underlying9 (by kernel_rfl) (by kernel_rfl),
    range_of_laid h (.tail _ (.tail _ (.tail _ (.head _)))) g_wk gt_wk Tryd.underlying46 Tryd.underlying9 (by kernel_rfl) (by kernel_rfl),
    tab_of_laid13 h (.tail _ (.tail _ (.head _))) g_pow gt_pow Tryd.underlying62 Tryd.underlying56 (by kernel_rfl) (by kernel_rfl)⟩
theorem laid17_of_row {W : World} (h : laidMetH Tryd.prog Rows.printTellsRow.laid W) : ∃ _A : Nat, Env13 W := ⟨0, env_of_row h⟩
end Go.Proofs.YtahohmdbiiknoaaDoor
