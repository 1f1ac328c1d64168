/- Same of numbers, Node, Nodes: two lists that are told alike are the same. · Nodes: two lists that are told alike are the same. -/
import Derived.Test.YtcddlconcngjlaaQJ
import Derived.Test.YtcddlconcngjlaaQG
set_option linter.unusedSimpArgs false
set_option linter.unusedVariables false
namespace Go.Proofs.Ytcddlconcngjlaa
open Go.RowKit
set_option linter.unusedVariables false
set_option linter.unusedSimpArgs false
set_option maxRecDepth 100000
end Go.Proofs.Ytcddlconcngjlaa
