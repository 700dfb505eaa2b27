/- What the rows of layer 7 share. -/
import Derived.Test.YtpejgfbpcnanjaaLift
namespace Go.Proofs.Ytpejgfbpcnanjaa

theorem cells_u64 : Try.prog.cellsOf 22 = 1 := by kernel_rfl
end Go.Proofs.Ytpejgfbpcnanjaa
