/- Walks of the reference's pen: Raw, Bool, Copy, Bytes; what both pens make of the same calls. -/
import Derived.Test.YtmgaddbhmbllgaaRefA
namespace Go.Proofs.Ytmgaddbhmbllgaa
open Go.RowKit

def refRawBad (bs : List Int) (s : List Int × Int) : Int :=
  if s.2 = 0 then (if 65535 < bs.length then 3 else if 65536 < s.1.length + 2 + bs.length then 3 else 0) else s.2
def refRaw (bs : List Int) (s : List Int × Int) : List Int × Int :=
  refAdd bs (refNum ((bs.length : Int) % 65536) 2 (s.1, refRawBad bs s))
def refBool (b : Bool) (s : List Int × Int) : List Int × Int := refNum (if b then 1 else 0) 1 s

end Go.Proofs.Ytmgaddbhmbllgaa
