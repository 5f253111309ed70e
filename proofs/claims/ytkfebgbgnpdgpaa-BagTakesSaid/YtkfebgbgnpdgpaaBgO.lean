/- bag: the walks of the reference's Drop and Same, and of the laws' model. -/
import Derived.Test.YtkfebgbgnpdgpaaBgN
import Derived.Test.YtkfebgbgnpdgpaaSame
namespace Go.Proofs.Ytkfebgbgnpdgpaa
open Go.RowKit Go.Shelf
end Go.Proofs.Ytkfebgbgnpdgpaa
