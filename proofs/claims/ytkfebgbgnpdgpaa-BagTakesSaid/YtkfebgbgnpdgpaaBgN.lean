/- bag: the walk of the reference's Take. -/
import Derived.Test.YtkfebgbgnpdgpaaBgM
import Derived.Deep.Cut
import Derived.Deep.CutBlock
namespace Go.Proofs.Ytkfebgbgnpdgpaa
open Go.RowKit Go.Shelf
end Go.Proofs.Ytkfebgbgnpdgpaa
