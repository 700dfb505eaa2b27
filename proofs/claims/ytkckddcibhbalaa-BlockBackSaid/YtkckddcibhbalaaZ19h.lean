/- What the rows of layer 19 share. -/
import Derived.Test.YtkckddcibhbalaaLiftS
namespace Go.Proofs.Ytkckddcibhbalaa

theorem cells_str : Try.prog.cellsOf 9 = 1 := by kernel_rfl
end Go.Proofs.Ytkckddcibhbalaa
