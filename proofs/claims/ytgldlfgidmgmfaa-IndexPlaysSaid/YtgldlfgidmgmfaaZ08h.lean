/- What the rows of layer 8 share. -/
import Derived.Test.YtgldlfgidmgmfaaLift
namespace Go.Proofs.Ytgldlfgidmgmfaa

theorem cells_u64 : Try.prog.cellsOf 34 = 1 := by kernel_rfl
end Go.Proofs.Ytgldlfgidmgmfaa
