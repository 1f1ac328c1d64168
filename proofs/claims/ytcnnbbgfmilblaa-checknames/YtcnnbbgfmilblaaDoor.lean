/- A seat without cards: the words of Door that others name. -/
import Derived.Below
import Derived.Test.YtcnnbbgfmilblaaRows
namespace Go.Proofs.Ytcnnbbgfmilblaa
open Go
end Go.Proofs.Ytcnnbbgfmilblaa
