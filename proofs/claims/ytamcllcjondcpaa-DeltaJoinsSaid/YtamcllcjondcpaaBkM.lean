/- blocks: the laws' awake. -/
import Derived.Test.YtamcllcjondcpaaBkL
namespace Go.Proofs.Ytamcllcjondcpaa
open Go.RowKit Go.Shelf
set_option maxRecDepth 100000
set_option linter.unusedSimpArgs false

/-- Apply on a map that was made since w. -/
theorem apply_new {w w1 : World} {M : List Nat} {q : Nat} {s : Bk} (k : Keeps [] w w1) (h : BkAt w1 M q s) (hM : ∀ b ∈ M, b < w1.heap.size) (hq : w.heap.size ≤ q) (x : Dl) :
    Calls Try.prog 15 #[.pointer (some ⟨q, 0, none⟩), dlV x] w1 fun e w' => ∃ a c, e = .returned (.tuple #[.slice a (goneD s x).length c, .bool (mayD s x)]) ∧ OwnP w' w1.heap.size M (.slice a (goneD s x).length c) (goneD s x) ∧ BkAt w' M q (stepD s x) ∧ Keeps [] w w' ∧ w1.heap.size ≤ w'.heap.size ∧ Keeps [q] w1 w' :=
  (zApply_any h hM x).mono fun e w' ⟨a, c, he, ho, hb, hk⟩ => ⟨a, c, he, ho, hb, k.trans' hk (fun i hi hm => by simp at hm; omega), hk.size, hk⟩

def awP : Pt := mkP 1 5 0 10
def awD : Dl := ⟨1, 2, 0, 10, awP, pZ⟩
theorem aw1 : mayD bk0 awD = true := by decide
theorem aw2 : stepD bk0 awD = ⟨10, [awP]⟩ := by unfold stepD; rw [if_pos aw1]; rfl
set_option maxHeartbeats 3200000 in
theorem bkAwake_any (w : World) : Calls Try.prog 8 #[] w fun e w' => e = .returned (.bool true) ∧ Keeps [] w w' := by
  have B0 := hid (bk_new w [])
  have K0 : Hid (Keeps [] w (w.alloc (.cells #[.bool true, .int .i64 0, .slice none 0 0] 76))) := hid ((Keeps.refl [] w).alloc _)
  have N := hid (zNew_any w)
  go_enter Try.func8, Try.ntmps8
  go_wp2_with fail
  refine N.out.mono ?_
  rintro e w1 ⟨rfl, hw⟩
  rw [← hw] at B0 K0
  have HQ := hid (show w.heap.size < w1.heap.size by rw [hw]; simp)
  clear hw N
  go_wp2_with fail
  refine (lPtr_any w1 1 5 0 10).mono ?_
  rintro e w2 ⟨rfl, k2⟩
  have B2 := hid (B0.out.later k2)
  have K2 := hid (K0.out.trans k2)
  have HQ2 := hid (show w.heap.size < w2.heap.size by have := HQ.out; have := k2.size; omega)
  clear k2
  go_wp2_with (first | (refine wpList_is rfl _ _ (exec_buildPut _ _ _ _ _ 1 2 0 10 awP rfl rfl rfl rfl rfl rfl) ?_) | fail)
  have A := apply_new K2.out B2.out (fun b hb => by simp at hb; have := HQ2.out; omega) (Nat.le_refl _) awD
  refine A.mono ?_
  rintro e w3 ⟨a, c, rfl, o3, b3, k3, -, -⟩
  rw [aw1]
  rw [aw2] at b3
  have B3 := hid b3
  have K3 := hid k3
  have e3 : atB [awP] 0 = awP := rfl
  have E3 := hid e3
  have Q1 := hid (zSize_any b3)
  have Q2 := hid (zCount_any b3)
  have Q3 := hid (zAt_any b3 0)
  clear A o3 b3 k3 e3
  go_wp2_with fail
  refine Q1.out.mono ?_
  rintro e _ ⟨rfl, rfl⟩
  go_wp2_with fail
  refine Q2.out.mono ?_
  rintro e _ ⟨rfl, rfl⟩
  go_wp2_with fail
  refine Q3.out.mono ?_
  rintro e w4 ⟨rfl, k4⟩
  rw [E3.out]
  go_wp2_with fail
  refine (lPtr_any w4 1 5 0 10).mono ?_
  rintro e w5 ⟨rfl, k5⟩
  have K5 := hid ((K3.out.trans k4).trans k5)
  clear k4 k5
  go_wp2_with (first | (refine wpList_isW rfl _ _ ((exec_eqPts _ _ _ awP awP rfl rfl rfl).trans (by rw [eqP_is.2 (rfl : awP = awP)])) ?_) | fail)
  go_ret
  exact ⟨rfl, K5.out⟩
end Go.Proofs.Ytamcllcjondcpaa
