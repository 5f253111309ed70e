/- blocks: the walk of the law BlocksRace. -/
import Derived.Test.YtdfhoanilbfkiaaBkRaceW
import Derived.Test.YtdfhoanilbfkiaaBkT
namespace Go.Proofs.Ytdfhoanilbfkiaa
open Go.Deep Go.ChangeShapes Go.WideShapes Go.ChangeAt Go.RowKit Go.Shelf
set_option maxRecDepth 100000
set_option linter.unusedSimpArgs false

theorem m11Race_any (w : World) (v : Value) (ds : List Dl) (hv : DlsAt w v ds) (z : Int) (a b : Pt) : Calls Try.prog 6 #[v, .int .i64 z, twoV a b] w fun e w' => e = .returned (.bool true) ∧ Keeps [] w w' := by
  have HV := hid hv
  obtain ⟨ad, c, rfl⟩ := hv.shape
  clear hv
  have k1 : Keeps [] w (w.alloc (.cells (a.cells ++ b.cells).toArray 57)) := (Keeps.refl [] w).alloc _
  have R0 := range_new w (a.cells ++ b.cells) 57
  have RA := hid (show (w.alloc (.cells (a.cells ++ b.cells).toArray 57)).rangeAt w.heap.size 0 a.cells from fun j u hu => R0 j u (by rw [List.getElem?_append_left (List.getElem?_eq_some_iff.1 hu).1]; exact hu))
  have RB := hid (show (w.alloc (.cells (a.cells ++ b.cells).toArray 57)).rangeAt w.heap.size 5 b.cells from fun j u hu => by
    have := R0 (5 + j) u (by rw [List.getElem?_append_right (by simp [Pt.cells])]; simpa [Pt.cells] using hu)
    rwa [Nat.zero_add] at this)
  have K1 := hid k1
  clear k1 R0
  unfold twoV
  go_enter Try.func6, Try.ntmps6
  go_wp2_with (first | (refine wpList_is rfl _ _ (exec_box 57 _ (a.cells ++ b.cells).toArray rfl rfl) ?_) | fail)
  refine (bkAwake_any _).mono ?_
  rintro e w1 ⟨rfl, k1⟩
  have RA1 := hid (range_keep RA.out k1 (by simp))
  have RB1 := hid (range_keep RB.out k1 (by simp))
  have K2 := hid (K1.out.trans k1)
  clear k1 RA RB K1
  go_wp2_with (first | (refine wpList_isW rfl _ _ (exec_load _ _ _ _ rfl rfl (loadPt_run _ w.heap.size 0 a RA1.out)) ?_) | (refine wpList_isW rfl _ _ (exec_load _ _ _ _ rfl rfl (loadPt_run _ w.heap.size 5 b RB1.out)) ?_) | fail)
  refine (m11RaceWell_any _ _ ds (HV.out.keep K2.out) z a b).mono ?_
  rintro e w3 ⟨rfl, k3⟩
  have K3 := hid (K2.out.trans k3)
  clear k3
  go_wp2_with fail
  go_ret
  exact ⟨rfl, K3.out⟩

end Go.Proofs.Ytdfhoanilbfkiaa
