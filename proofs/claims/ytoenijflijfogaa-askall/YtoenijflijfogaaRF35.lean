/- H1, joined. -/
import Derived.Test.YtoenijflijfogaaRF11
import Derived.Test.YtoenijflijfogaaRF34
/- The contract of the reference's Right. -/
namespace Go.Proofs.Ytoenijflijfogaa
open Go.RowKit

end Go.Proofs.Ytoenijflijfogaa
