/- H1, joined. -/
import Derived.Test.YtoenijflijfogaaGreatRH11
import Derived.Test.YtoenijflijfogaaGreatRH35
/- The contract of the reference's Right. -/
namespace Go.Proofs.YtoenijflijfogaaGreat
open Go.RowKit

end Go.Proofs.YtoenijflijfogaaGreat
