/- Load: the chunks of an image. -/
import Derived.Test.YtofoeemgplggbaaDkR
namespace Go.Proofs.Ytofoeemgplggbaa
open Go.RowKit Go.Shelf
attribute [local go_sem] Oper.semAt_some

end Go.Proofs.Ytofoeemgplggbaa
