/- What the fixed calls of layer 4's 'alive' come to: true. -/
import Derived.Test.YtbcdmammedabmaaC5
namespace Go.Proofs.Ytbcdmammedabmaa
open Go.RowKit

end Go.Proofs.Ytbcdmammedabmaa
