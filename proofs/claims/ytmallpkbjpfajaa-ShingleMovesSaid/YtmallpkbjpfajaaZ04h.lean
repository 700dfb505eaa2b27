/- What the rows of layer 4 share. -/
import Derived.Test.YtmallpkbjpfajaaLiftS
namespace Go.Proofs.Ytmallpkbjpfajaa

theorem cells_str : Try.prog.cellsOf 9 = 1 := by kernel_rfl
end Go.Proofs.Ytmallpkbjpfajaa
