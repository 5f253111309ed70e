/- delta: the reference's EncodeDeltas. -/
import Derived.Test.YtoglcohdanpciaaDeI
import Derived.Test.YtoglcohdanpciaaDeC
namespace Go.Proofs.Ytoglcohdanpciaa
open Go.RowKit Go.Shelf
set_option maxRecDepth 100000
set_option linter.unusedSimpArgs false

def rencK (ds : List Dl) (k : Nat) : PSt := (ds.take k).foldl (fun t x => rputD x t) (refNum ds.length 2 ([], 0))
theorem rencK_snoc {ds : List Dl} {k : Nat} (h : k < ds.length) : rencK ds (k + 1) = rputD ds[k] (rencK ds k) := by
  unfold rencK
  rw [List.take_succ_eq_append_getElem h, List.foldl_append]
  rfl
theorem rencK_zero (ds : List Dl) : rencK ds 0 = refNum ds.length 2 ([], 0) := by
  unfold rencK
  rw [List.take_zero, List.foldl_nil]
def rencS (ds : List Dl) : PSt := rencK ds ds.length
def rencL (ds : List Dl) : List Int × Int :=
  if badL ds = true then ([], 1) else if 4000 < ds.length then ([], 3) else (if (rencS ds).2 = 0 then (rencS ds).1 else [], (rencS ds).2)
end Go.Proofs.Ytoglcohdanpciaa
