/- What the rows of layer 10 share. -/
import Derived.Test.YtahjopajnckbaaaLift
namespace Go.Proofs.Ytahjopajnckbaaa
end Go.Proofs.Ytahjopajnckbaaa
