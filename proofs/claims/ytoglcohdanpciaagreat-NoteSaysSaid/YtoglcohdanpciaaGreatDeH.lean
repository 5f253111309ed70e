/- delta: the reference's GetDelta. -/
import Derived.Test.YtoglcohdanpciaaGreatDeG
import Derived.Test.YtoglcohdanpciaaGreatDeC
namespace Go.Proofs.YtoglcohdanpciaaGreat
open Go.RowKit Go.Shelf
set_option maxRecDepth 100000
set_option linter.unusedSimpArgs false

def getD (st : PSt) : Dl × PSt :=
  if (headE st).1.d = 1 then ({ (headE st).1 with t := (getP (headE st).2).1 }, (getP (headE st).2).2)
  else if (headE st).1.d = 3 then ({ (headE st).1 with o := (getP (headE st).2).1, t := (getP (getP (headE st).2).2).1 }, (getP (getP (headE st).2).2).2)
  else headE st
/-- What the reference's eye knows behind a delta. -/
def finD (o : Dl × PSt) : PSt := formW o.2 (!mayL o.1)
def RGetPost (w : World) (B p : Nat) (st : PSt) (e : Ending) (w' : World) : Prop :=
  e = .returned (dlV (getD st).1) ∧ REyL w' B p (finD (getD st)) ∧ Keeps [p] w w'

end Go.Proofs.YtoglcohdanpciaaGreat
