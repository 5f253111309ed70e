/- An eye that failed answers nothing more, takes nothing more, and keeps the first error (the law WireFails): the walk. -/
import Derived.Test.YtoglcohdanpciaaDeeds
import Derived.Test.YtoglcohdanpciaaKnown
namespace Go.Proofs.Ytoglcohdanpciaa
open Go.RowKit

theorem after_bad {α : Type} (zs : List Int) (r : Except Int (α × List Int)) : after zs 1 r = (none, zs, 1) := by
  unfold after
  rw [if_pos (by omega)]

end Go.Proofs.Ytoglcohdanpciaa
