/- What drawn real numbers want. -/
import Derived.Test.YtfonpkmecghhhaaDoorNumA
import Derived.Test.YtfonpkmecghhhaaDoorRealZ
namespace Go.Proofs.YtfonpkmecghhhaaDoor
open Go Go.RowKit

end Go.Proofs.YtfonpkmecghhhaaDoor
