/- blocks: the reference's change, a kind. -/
import Derived.Test.YtdfhoanilbfkiaaBkX0
namespace Go.Proofs.Ytdfhoanilbfkiaa
open Go.RowKit Go.Shelf
set_option maxRecDepth 100000
set_option linter.unusedSimpArgs false

set_option maxHeartbeats 12800000 in
theorem rChangeCut_any {w : World} {q : Nat} {F : List Nat} {s : Bk} (h : RkAt w q F s) (hg : GoodB s) (x : Dl) (h1 : ¬ x.d = 1) (h2 : x.d = 2) : Calls Try.prog 37 #[.pointer (some ⟨q, 0, none⟩), dlV x] w (RchPost w q F s x) := by
  have H := hid h
  have HG := hid hg
  have ka : Keeps [] w (w.alloc (.cells x.cells.toArray 34)) := (Keeps.refl [] w).alloc _
  have HA := hid (h.later ka)
  have RA := hid (range_new w x.cells 34)
  have DA := hid (dl_range RA.out)
  have KA := hid ka
  have HSZ := hid (show w.heap.size < (w.alloc (.cells x.cells.toArray 34)).heap.size by simp)
  have HFW := hid h.lt
  have d0 := DA.out.c0
  have d2 := DA.out.c2
  have d3 := DA.out.c3
  simp only [Nat.zero_add] at d2 d3
  obtain ⟨r, hr⟩ : ∃ r, r = mayD s x := ⟨_, rfl⟩
  unfold mayD at hr
  have HR := hid hr
  have HRE := hid (show r = mayD s x by rw [hr]; rfl)
  clear h hg ka hr
  have e1 : (x.d == 1) = false := by simpa using h1
  have e2 : (x.d == 2) = true := by simpa using h2
  have HD := hid (fun (hm : mayD s x = true) => show doD s x = ⟨x.s, fitL s.L (cnt x.s)⟩ by unfold doD; rw [if_neg h1, if_pos h2])
  rw [if_neg h1, if_pos h2] at HR
  clear h1 h2
  by_cases b0 : x.s < 0
  · have B0 := hid b0
    go_enter Try.func37, Try.ntmps37
    go_wp2_with (first | (refine wpList_is rfl _ _ (exec_box 34 _ x.cells.toArray rfl rfl) ?_) | fail)
    go_ret
    exact rch_no H.out (by rw [← HRE.out, HR.out]; have := B0.out; simp [btw]; omega) KA.out
  by_cases b1 : 4096 < x.s
  · have B1 := hid b1
    go_enter Try.func37, Try.ntmps37
    go_wp2_with (first | (refine wpList_is rfl _ _ (exec_box 34 _ x.cells.toArray rfl rfl) ?_) | fail)
    go_ret
    exact rch_no H.out (by rw [← HRE.out, HR.out]; have := B1.out; simp [btw]; omega) KA.out
  have HM := hid (show mayD s x = true by rw [← HRE.out, HR.out]; exact btw_is.2 ⟨by omega, by omega⟩)
  have HN0 := hid (show 0 ≤ x.s ∧ x.s ≤ 4096 by omega)
  obtain ⟨ra, rc, hb2, hx1, hx2, hx3⟩ := HA.out.cells
  clear hx1 hx2 hx3
  obtain ⟨c0, c1, f0, f1⟩ := two_cells hb2
  obtain ⟨r3, k3⟩ := rk_size HA.out x.s
  have R3 := hid r3
  have K3 := hid ((KA.out.mono (S' := F) (by simp)).trans k3)
  clear r3 k3 hb2 c1 f1
  go_enter Try.func37, Try.ntmps37
  go_wp2_with (first | (refine wpList_is rfl _ _ (exec_box 34 _ x.cells.toArray rfl rfl) ?_) | fail)
  refine (rFit_any R3.out HN0.out.1 HN0.out.2).mono ?_
  rintro e w4 ⟨rfl, F4, r4, k4, f4⟩
  have R4 := hid r4
  have K4 := hid (K3.out.trans k4)
  have FF4 := hid (show ∀ b ∈ F4, b ∈ F ∨ w.heap.size ≤ b from fun b hb => by
    rcases f4 b hb with h | h
    · exact Or.inl h
    · exact Or.inr (Nat.le_trans K3.out.size h))
  clear r4 k4 f4
  go_wp2_with fail
  go_ret
  refine rch_yes HM.out (F' := F4) ?_ K4.out FF4.out
  rw [HD.out HM.out]
  exact R4.out
end Go.Proofs.Ytdfhoanilbfkiaa
