/- H1, joined. -/
import Derived.Test.YtoenijflijfogaaGreatRA11
import Derived.Test.YtoenijflijfogaaGreatRA35
/- The contract of the reference's Right. -/
namespace Go.Proofs.YtoenijflijfogaaGreat
open Go.RowKit

end Go.Proofs.YtoenijflijfogaaGreat
