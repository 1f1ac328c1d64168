/- A seat that reaches nothing off the kit's shelf. -/
import Derived.Below
import Derived.Lib.Bytealg
import Derived.Test.YtcddlconcngjlaaRows
