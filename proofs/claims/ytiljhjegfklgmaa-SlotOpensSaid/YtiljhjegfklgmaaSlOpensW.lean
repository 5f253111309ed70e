/- The walk of the law SlotOpens. -/
import Derived.Test.YtiljhjegfklgmaaSlRows
namespace Go.Proofs.Ytiljhjegfklgmaa
open Go.RowKit Go.Shelf
set_option maxRecDepth 100000
set_option linter.unusedSimpArgs false

/-- Both disks, apart, while sectors are written. -/
structure WrI (W w : World) (p rp : Nat) (s : DS) (F G : List Nat) (K : Nat) : Prop where
  d : DiskAt w p s F K
  r : RefS w rp s G
  fit : s.Fit K
  dis : ∀ b ∈ F, b ∉ G
  new : ∀ b ∈ F ++ G, W.heap.size ≤ b
  kp : Keeps [] W w
  al : s.dead = false ∧ s.fuse = -1
theorem WrI.keep {W w w' : World} {p rp : Nat} {s : DS} {F G : List Nat} {K : Nat} (h : WrI W w p rp s F G K) (k : Keeps [] w w') : WrI W w' p rp s F G K :=
  ⟨h.d.keep k (by simp), h.r.keep k (by simp), h.fit, h.dis, h.new, h.kp.trans k, h.al⟩
theorem writeS_al {s : DS} (h : s.dead = false ∧ s.fuse = -1) (k : Int) (zs : List Int) : (writeS s k zs).dead = false ∧ (writeS s k zs).fuse = -1 := by
  unfold writeS
  split
  · unfold DS.wrote
    rw [if_neg (by rw [h.2]; decide)]
    refine ⟨h.1, ?_⟩
    show (if 0 < s.fuse then s.fuse - 1 else s.fuse) = -1
    rw [h.2]; rfl
  · exact h

end Go.Proofs.Ytiljhjegfklgmaa
