/- layout: the walk of the law LayoutReads. -/
import Derived.Test.YtoglcohdanpciaaLyJ6
namespace Go.Proofs.Ytoglcohdanpciaa
open Go.RowKit Go.Shelf
set_option maxRecDepth 100000
set_option linter.unusedSimpArgs false
set_option linter.unusedVariables false

set_option maxHeartbeats 12800000 in
theorem yReads_any (w : World) (v : Value) (zs : List Int) (h : RowAt w v zs) (hl : zs.length ≤ 140737488351232) : Calls Try.prog 5 #[v] w fun e w' => e = .returned (.bool true) ∧ Keeps [] w w' := by
  obtain ⟨va, vc, rfl, _⟩ := id h
  have H := hid h
  have A1 := hid (yAwake_any w)
  by_cases hbig : 1000 < zs.length
  · clear h
    go_enter Try.func5, Try.ntmps5
    go_wp2_with fail
    refine A1.out.mono ?_
    rintro e w1 ⟨rfl, k1⟩
    have K1 := hid k1
    clear k1
    go_wp2_with fail
    go_ret
    exact ⟨rfl, K1.out⟩
  have hsm : zs.length ≤ 1000 := by omega
  clear h hbig hl
  obtain ⟨r, hr⟩ : ∃ r, r = readL zs := ⟨_, rfl⟩
  obtain ⟨⟨hs, hi, hn, hz⟩, bs, er⟩ := r
  have HR := hid hr
  have HBL := hid (show bs.length ≤ 1000 by have := readL_len zs; rw [← hr] at this; simp only at this; omega)
  clear hr
  go_enter Try.func5, Try.ntmps5
  go_wp2_with fail
  refine A1.out.mono ?_
  rintro e w1 ⟨rfl, k1⟩
  have K1 := hid k1
  have H1 := hid (H.out.keep k1 (by intro _ _ _ _ _; simp))
  have HA0 := lRead_any w1 _ zs H1.out (by omega)
  rw [← HR.out] at HA0
  have HA := hid HA0
  clear k1 HA0
  go_wp2_with fail
  refine HA.out.mono ?_
  unfold ReadPost13 hdV13
  simp only
  rintro e w2 ⟨k2, a2, c2, rfl, r2, -⟩
  have R2 := hid r2
  have H2 := hid (H1.out.keep k2 (by intro _ _ _ _ _; simp))
  have K2 := hid (K1.out.trans k2)
  clear k2 r2
  obtain ⟨w3, hw3⟩ : ∃ x, x = w2.alloc (.cells #[.int .i64 hs.c, .int .i64 hs.l, .int .i64 hs.n, .int .i64 hi, .int .i64 hn, .int .i64 hz] 33) := ⟨_, rfl⟩
  have HW3 := hid hw3
  have k3 : Keeps [] w2 w3 := by rw [hw3]; exact (Keeps.refl [] _).alloc _
  have G3 := hid (show w3.rangeAt w2.heap.size 0 (⟨hs, hi, hn, hz⟩ : Hd13).cells by rw [hw3]; exact range_cells (heap_alloc_new w2 _))
  have S3 := hid (show w3.heap.size = w2.heap.size + 1 by rw [hw3]; exact World.size_alloc _ _)
  have R3 := hid (R2.out.keep k3 (by intro _ _ _ _ _; simp))
  have H3 := hid (H2.out.keep k3 (by intro _ _ _ _ _; simp))
  have K3 := hid (K2.out.trans k3)
  have HB0 := rRead_any w3 _ zs H3.out (by omega)
  rw [← HR.out] at HB0
  have HB := hid HB0
  clear hw3 k3 HB0
  go_wp2_with fail
  rw [← HW3.out]
  refine HB.out.mono ?_
  unfold ReadPost13 hdV13
  simp only
  rintro e w4 ⟨k4, a4, c4, rfl, r4, -⟩
  have R4 := hid r4
  have R3' := hid (R3.out.keep k4 (by intro _ _ _ _ _; simp))
  have G4 := hid (show w4.rangeAt w2.heap.size 0 (⟨hs, hi, hn, hz⟩ : Hd13).cells from fun i u hu => k4.cell (G3.out i u hu) (by simp))
  have K4 := hid (K3.out.trans k4)
  have S4 := hid (show w2.heap.size < w4.heap.size by have := S3.out; have := k4.size; omega)
  clear k4 r4
  obtain ⟨w5, hw5⟩ : ∃ x, x = w4.alloc (.cells #[.int .i64 hs.c, .int .i64 hs.l, .int .i64 hs.n, .int .i64 hi, .int .i64 hn, .int .i64 hz] 46) := ⟨_, rfl⟩
  have HW5 := hid hw5
  have k5 : Keeps [] w4 w5 := by rw [hw5]; exact (Keeps.refl [] _).alloc _
  have G5 := hid (show w5.rangeAt w4.heap.size 0 (⟨hs, hi, hn, hz⟩ : Hd13).cells by rw [hw5]; exact range_cells (heap_alloc_new w4 _))
  have G5' := hid (show w5.rangeAt w2.heap.size 0 (⟨hs, hi, hn, hz⟩ : Hd13).cells from fun i u hu => k5.cell (G4.out i u hu) (by simp))
  have R5 := hid (R4.out.keep k5 (by intro _ _ _ _ _; simp))
  have R5' := hid (R3'.out.keep k5 (by intro _ _ _ _ _; simp))
  have K5 := hid (K4.out.trans k5)
  clear hw5 k5
  go_wp2_with (first | (refine wpList_isW rfl _ _ (exec_load _ _ _ _ rfl rfl (loadHd _ w2.heap.size 0 ⟨hs, hi, hn, hz⟩ (by rw [← HW5.out]; exact G5'.out))) ?_) | (refine wpList_isW rfl _ _ (exec_load _ _ _ _ rfl rfl (loadRHd _ w4.heap.size 0 ⟨hs, hi, hn, hz⟩ (by rw [← HW5.out]; exact G5.out))) ?_) | fail)
  rw [← HW5.out]
  refine (ySame_any w5 ⟨hs, hi, hn, hz⟩ ⟨hs, hi, hn, hz⟩).mono ?_
  rintro e w6 ⟨rfl, k6⟩
  rw [decide_eq_true (rfl : (⟨hs, hi, hn, hz⟩ : Hd13) = ⟨hs, hi, hn, hz⟩)]
  have K6 := hid (K5.out.trans k6)
  have R6 := hid (R5.out.keep k6 (by intro _ _ _ _ _; simp))
  have R6' := hid (R5'.out.keep k6 (by intro _ _ _ _ _; simp))
  clear k6
  go_wp2_with fail
  refine (same_any w6 _ _ bs bs R6'.out R6.out (by have := HBL.out; omega) (by have := HBL.out; omega)).mono ?_
  rintro e w7 ⟨rfl, q, rfl⟩
  rw [decide_eq_true (rfl : bs = bs)]
  go_wp2_with fail
  go_ret
  exact ⟨rfl, K6.out.drewN _⟩
end Go.Proofs.Ytoglcohdanpciaa
