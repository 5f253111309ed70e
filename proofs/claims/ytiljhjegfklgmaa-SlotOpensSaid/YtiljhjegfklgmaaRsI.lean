/- The reference's slots: Put. -/
import Derived.Test.YtiljhjegfklgmaaRsH
namespace Go.Proofs.Ytiljhjegfklgmaa
open Go.RowKit Go.Shelf
end Go.Proofs.Ytiljhjegfklgmaa
