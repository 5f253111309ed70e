/- The reference's disk: Sync. -/
import Derived.Test.YtiljhjegfklgmaaRfI
namespace Go.Proofs.Ytiljhjegfklgmaa
open Go.RowKit Go.Shelf
set_option maxRecDepth 100000

/-- Only what is told of its rows matters. -/
theorem RefIn.congr {w : World} {q : Nat} {s s' : RSt} {vf : Nat → Value} {uf : Nat → List Value} (h : RefIn w q s vf uf) (h1 : ∀ i, i < 4 → i ≠ 2 → s'.rf i = s.rf i) (h2 : s'.ats = s.ats) (h3 : s'.ops = s.ops ∧ s'.fuse = s.fuse ∧ s'.dead = s.dead) : RefIn w q s' vf uf := by
  refine ⟨?_, fun i hi h => ?_, ?_, h.u2, h.apart, h.no, h.off, h.lt⟩
  · rw [h.blk]; simp [rcells, h3.1, h3.2.1, h3.2.2]
  · rw [h1 i hi h]; exact (RefIn.row ‹_› i hi h)
  · rw [h2]; exact h.at_

/-- The first k rows have been copied. -/
def DS.mix (s : DS) (k : Nat) : DS := { s with las := fun j => if j < k then s.now j else s.las j }
theorem mix_zero (s : DS) : s.mix 0 = s := by simp [DS.mix]
theorem map_mix (s : DS) (k : Nat) : ((List.range s.cnt).map fun j => ((s.mix (k + 1)).las j).1) = ((List.range s.cnt).map fun j => ((s.mix k).las j).1).set k (s.now k).1 := by
  apply List.ext_getElem
  · simp
  · intro j h1 h2
    rw [List.getElem_set]
    simp only [List.getElem_map, List.getElem_range, DS.mix]
    by_cases e : k = j
    · subst e; rw [if_pos (by omega), if_pos rfl]
    · rw [if_neg e]
      by_cases hj : j < k
      · rw [if_pos hj, if_pos (by omega)]
      · rw [if_neg hj, if_neg (by omega)]

end Go.Proofs.Ytiljhjegfklgmaa
