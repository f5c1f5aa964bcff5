/- What drawn real numbers want. -/
import Derived.Test.YtdhoimjkgicneaaDoorNumA0
import Derived.Test.YtdhoimjkgicneaaDoorRealZ
namespace Go.Proofs.YtdhoimjkgicneaaDoor
open Go Go.RowKit

end Go.Proofs.YtdhoimjkgicneaaDoor
