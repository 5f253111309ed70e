/- tokens: the laws' awake; TokensKnown's walk. -/
import Derived.Test.YtjohikekhgcepaaTkI
namespace Go.Proofs.Ytjohikekhgcepaa
open Go.RowKit Go.Shelf
set_option maxRecDepth 100000
set_option linter.unusedSimpArgs false

/-- Keeps all that lay at w; new tokens there. -/
theorem keep_new {w w1 w2 : World} {q : Nat} (k1 : Keeps [] w w1) (k2 : Keeps [q] w1 w2) (hq : w.heap.size ≤ q) : Keeps [] w w2 := k1.trans' k2 (fun i hi hm => by simp at hm; omega)
set_option maxHeartbeats 6400000 in
theorem awake15_any (w : World) : Calls Try.prog 17 #[] w (PB w true) := by
  go_enter Try.func17, Try.ntmps17
  go_wp2_with fail
  refine (tkNew_any w).mono ?_
  rintro e w1 ⟨rfl, t1, k1⟩
  have T1 := hid t1
  have K1 := hid k1
  have hq := t1.lt
  have HQ := hid hq
  clear t1 k1
  go_wp2_with fail
  refine (open_any T1.out (by simpa using HQ.out) 1 5 true (by decide)).mono ?_
  rintro e w2 ⟨rfl, t2, k2⟩
  rw [show openK [] 1 5 true = ((0, 0), [⟨1, 0, 5, true⟩]) by decide] at t2 ⊢
  have T2 := hid t2
  have K2 := hid (keep_new K1.out k2 (Nat.le_refl _))
  have HQ2 := hid (Nat.lt_of_lt_of_le HQ.out k2.size)
  clear t2 k2
  go_wp2_with fail
  refine (open_any T2.out (by simpa using HQ2.out) 2 5 false (by decide)).mono ?_
  rintro e w3 ⟨rfl, t3, k3⟩
  rw [show openK [⟨1, 0, 5, true⟩] 2 5 false = ((0, 8), [⟨1, 0, 5, true⟩]) by decide] at t3 ⊢
  have T3 := hid t3
  have K3 := hid (keep_new K2.out k3 (Nat.le_refl _))
  clear t3 k3
  go_wp2_with fail
  refine (of_any T3.out 1 0).mono ?_
  rintro e w4 ⟨rfl, k4⟩
  rw [show ofR [⟨1, 0, 5, true⟩] 1 0 = ⟨1, 0, 5, true⟩ by decide, show ([⟨1, 0, 5, true⟩] : List Rk).any (atK 1 0) = true by decide]
  have K4 := hid (K3.out.trans k4)
  clear k4
  have KA := hid (K4.out.alloc (.cells (Rk.cells ⟨1, 0, 5, true⟩).toArray 59))
  obtain ⟨c0, c1, c2, c3⟩ := rkrange_at (rkrange_new w4 (Rk.cells ⟨1, 0, 5, true⟩) 59)
  simp only [Nat.zero_add] at c2 c3
  clear c0 c1
  go_wp2_with (first | (refine wpList_allocRk cRk rfl rfl ?_) | (refine wpList_newRk cRk rfl w4 _ _ rfl rfl rfl ⟨1, 0, 5, true⟩ rfl ?_) | fail)
  go_ret
  exact ⟨rfl, KA.out⟩
def KnownPost (w : World) (e : Ending) (w' : World) : Prop := e = .returned (.bool true) ∧ Keeps [] w w'
end Go.Proofs.Ytjohikekhgcepaa
