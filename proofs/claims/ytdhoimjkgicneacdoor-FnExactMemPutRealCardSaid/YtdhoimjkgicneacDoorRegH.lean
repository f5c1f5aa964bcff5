/- A region that draws its order, walked with a condition that is held: beside the memory's laws. -/
import Derived.Test.YtdhoimjkgicneacDoorRegK
import Derived.Test.YtdhoimjkgicneacDoorMemB
