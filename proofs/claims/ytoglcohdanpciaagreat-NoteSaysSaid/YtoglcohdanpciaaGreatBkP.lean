/- blocks: the reference's MayStripe and MayPtr. -/
import Derived.Test.YtoglcohdanpciaaGreatJB2
namespace Go.Proofs.YtoglcohdanpciaaGreat
open Go.RowKit Go.Shelf
set_option maxRecDepth 100000
set_option linter.unusedSimpArgs false

end Go.Proofs.YtoglcohdanpciaaGreat
