/- What the rows of layer 18 share. -/
import Derived.Test.YtgalafidpoejdaaLift
namespace Go.Proofs.Ytgalafidpoejdaa
end Go.Proofs.Ytgalafidpoejdaa
