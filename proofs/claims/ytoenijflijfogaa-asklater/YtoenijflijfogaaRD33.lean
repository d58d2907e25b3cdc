/- H1, joined. -/
import Derived.Test.YtoenijflijfogaaRD11
import Derived.Test.YtoenijflijfogaaRD32
/- The contract of the reference's Right. -/
namespace Go.Proofs.Ytoenijflijfogaa
open Go.RowKit

end Go.Proofs.Ytoenijflijfogaa
