/-
  The program's contracts of layer 10, together: Later, Check (EffCheckP), Put (EffPutP), Get (EffTakeP), Want (EffWantP), Common (EffCommonP), Text (EffTextP).
-/
import Derived.Test.YtdlmpdhbehpmpaaDoorEffCheckP
import Derived.Test.YtdlmpdhbehpmpaaDoorEffPutP
import Derived.Test.YtdlmpdhbehpmpaaDoorEffTakeP
import Derived.Test.YtdlmpdhbehpmpaaDoorEffWantP
import Derived.Test.YtdlmpdhbehpmpaaDoorEffCommonP
import Derived.Test.YtdlmpdhbehpmpaaDoorEffTextP
