/- What the rows of layer 5 share: fold's two tables start as the program's text lays them. -/
import Derived.Test.YtonbgdcgfoipjaaDoorTie
import Derived.Test.YtonbgdcgfoipjaaDoorCards
import Derived.Test.YtonbgdcgfoipjaaDoorTabL
import Derived.Test.YtonbgdcgfoipjaaDoorLift
namespace Go.Proofs.YtonbgdcgfoipjaaDoor
open Go.ChangeShapes Go.WideShapes Go.ChangeAt Go.RowKit

theorem cells_u64 : Tryd.prog.cellsOf 26 = 1 := by kernel_rfl
abbrev doorSteps : Nat := 400
theorem door_met (os : Os) (args : Array Value) : laidMetH Tryd.prog Rows.voteTellsRow.laid ((World.doorLaid Tryd.prog doorSteps os).forCall (fun _ _ => 0) ⟨#[], args, []⟩).memory :=
  laidMetH_of_parts3 (fuel := 8) (laidMet_of_run' 8 (by kernel_rfl) (by kernel_rfl)) (by kernel_rfl) (by kernel_rfl)
theorem tab_of_row {W : World} (h : laidMetH Tryd.prog Rows.voteTellsRow.laid W) : Tab W := by
  rw [MakeChecks.laidMetH_plain _ _ _ (by kernel_rfl)] at h
  exact tab_of_laid h (by kernel_rfl) (by kernel_rfl) (.tail _ (.head _)) (.head _)
end Go.Proofs.YtonbgdcgfoipjaaDoor
