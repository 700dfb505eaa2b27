/- What the rows of layer 9 share. -/
import Derived.Test.YtkegealaagphgaaLift
namespace Go.Proofs.Ytkegealaagphgaa
end Go.Proofs.Ytkegealaagphgaa
