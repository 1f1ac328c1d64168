/- What the walks of laws use besides: regions that draw their order, cuts. -/
import Derived.Test.YtodnfdkcmhiljaaFdTake
import Derived.Test.YtodnfdkcmhiljaaFdLaw
import Derived.Deep.RegionWith
import Derived.Deep.DeepCutAuto
