/- A seat without cards: the words of Door that others name. -/
import Derived.Below
import Derived.Test.YtcddlconcngjlaaRows
namespace Go.Proofs.Ytcddlconcngjlaa
open Go
end Go.Proofs.Ytcddlconcngjlaa
