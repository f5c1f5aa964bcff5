/- What drawn real numbers want. -/
import Derived.Test.YtelgefchnjiggaaDoorNumA
import Derived.Test.YtelgefchnjiggaaDoorRealZ
namespace Go.Proofs.YtelgefchnjiggaaDoor
open Go Go.RowKit

end Go.Proofs.YtelgefchnjiggaaDoor
