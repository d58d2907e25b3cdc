/- What the fixed calls of layer 4's 'alive' come to: true. -/
import Derived.Test.YtbcdmammedabmabC5
namespace Go.Proofs.Ytbcdmammedabmab
open Go.RowKit

end Go.Proofs.Ytbcdmammedabmab
