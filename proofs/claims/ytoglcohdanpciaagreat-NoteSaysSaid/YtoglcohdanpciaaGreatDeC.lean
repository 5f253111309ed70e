/- delta: the reference's MayDelta. -/
import Derived.Test.YtoglcohdanpciaaGreatDeB
import Derived.Test.YtoglcohdanpciaaGreatBkP
namespace Go.Proofs.YtoglcohdanpciaaGreat
open Go.RowKit Go.Shelf
set_option maxRecDepth 100000
set_option linter.unusedSimpArgs false

end Go.Proofs.YtoglcohdanpciaaGreat
