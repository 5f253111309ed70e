/- blocks: the reference's GetPtr. -/
import Derived.Test.YtoglcohdanpciaaGreatBkEa
import Derived.Test.YtoglcohdanpciaaGreatJS
namespace Go.Proofs.YtoglcohdanpciaaGreat
open Go.RowKit Go.Shelf
set_option maxRecDepth 100000
set_option linter.unusedSimpArgs false

end Go.Proofs.YtoglcohdanpciaaGreat
