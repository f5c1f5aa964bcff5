/- What drawn real numbers want. -/
import Derived.Test.YtdhoimjkgicneaaNumA
import Derived.Test.YtdhoimjkgicneaaRealZ
namespace Go.Proofs.Ytdhoimjkgicneaa
open Go Go.RowKit

end Go.Proofs.Ytdhoimjkgicneaa
