/- What the rows of layer 6 share. -/
import Derived.Test.YtonekkjodolmaaaLift
namespace Go.Proofs.Ytonekkjodolmaaa

theorem cells_u64 : Try.prog.cellsOf 22 = 1 := by kernel_rfl
end Go.Proofs.Ytonekkjodolmaaa
