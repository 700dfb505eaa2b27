/- strings.Clone at this program: the same bytes (internal/stringslite.Clone by the library's contract; made by wip/tools/shelf2tpl.py). -/
import Derived.Shelf.Strconv.Clone
import Derived.Test.YtkckddcibhbalaaBase
namespace Go.Proofs.Ytkckddcibhbalaa
open Go.RowKit Go.Shelf Go.Lib
end Go.Proofs.Ytkckddcibhbalaa
