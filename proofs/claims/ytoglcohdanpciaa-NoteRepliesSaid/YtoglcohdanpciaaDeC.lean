/- delta: the reference's MayDelta. -/
import Derived.Test.YtoglcohdanpciaaDeB
import Derived.Test.YtoglcohdanpciaaBkP
namespace Go.Proofs.Ytoglcohdanpciaa
open Go.RowKit Go.Shelf
set_option maxRecDepth 100000
set_option linter.unusedSimpArgs false

set_option maxHeartbeats 12800000 in
theorem rdMay_any (w : World) (x : Dl) : Calls Try.prog 86 #[dlV x] w (MayPost w (mayL x)) := by
  have ka : Keeps [] w (w.alloc (.cells x.cells.toArray 149)) := (Keeps.refl [] w).alloc _
  have kb : Keeps [] (w.alloc (.cells x.cells.toArray 149)) ((w.alloc (.cells x.cells.toArray 149)).alloc (.cells pZ.cells.toArray 147)) := (Keeps.refl [] _).alloc _
  have d2 := (dl_range (range_new w x.cells 149)).keep kb (by simp)
  have D2 := hid d2
  have rz := range_new (w.alloc (.cells x.cells.toArray 149)) pZ.cells 147
  rw [World.size_alloc] at rz
  have RZ := hid rz
  have KB := hid (ka.trans kb)
  have HS := hid (show w.heap.size + 1 < ((w.alloc (.cells x.cells.toArray 149)).alloc (.cells pZ.cells.toArray 147)).heap.size by simp)
  have c0 := d2.c0
  have c1 := d2.c1
  have c2 := d2.c2
  have c3 := d2.c3
  simp only [Nat.zero_add] at c1 c2 c3
  obtain ⟨r, hr⟩ : ∃ r, r = mayL x := ⟨_, rfl⟩
  rw [← hr]
  unfold mayL at hr
  have HR := hid hr
  clear ka kb d2 rz hr
  by_cases h0 : x.i < 2
  · have E := hid (show btw x.i 2 128 = false by simp [btw]; omega)
    clear c0
    go_enter Try.func86, Try.ntmps86
    go_wp2_with (first | go_big_skip | (refine wpList_is rfl _ _ (exec_box 149 _ x.cells.toArray rfl rfl) ?_) | (refine wpList_is rfl _ _ (exec_alloc 147 pZ.cells.toArray iPtr2 rfl) ?_) | (refine wpList_is rfl _ _ (exec_buildPtZ rfl) ?_) | (refine wpList_noval rfl _ (exec_storeNew 147 _ _ rfl (w.alloc (.cells x.cells.toArray 149)) pZ.cells.toArray pZ.cells.toArray rfl rfl rfl iPtr2 rfl (cells_one pZ)) ?_) | (refine wpList_isW rfl _ _ (exec_load _ _ _ _ rfl rfl (loadPt_run _ w.heap.size (0 + 4) x.t D2.out.t)) ?_) | fail)
    go_ret
    exact retD (by rw [HR.out, E.out]; simp) KB.out
  · skip
    by_cases h1 : 128 < x.i
    · have E := hid (show btw x.i 2 128 = false by simp [btw]; omega)
      clear c0
      go_enter Try.func86, Try.ntmps86
      go_wp2_with (first | go_big_skip | (refine wpList_is rfl _ _ (exec_box 149 _ x.cells.toArray rfl rfl) ?_) | (refine wpList_is rfl _ _ (exec_alloc 147 pZ.cells.toArray iPtr2 rfl) ?_) | (refine wpList_is rfl _ _ (exec_buildPtZ rfl) ?_) | (refine wpList_noval rfl _ (exec_storeNew 147 _ _ rfl (w.alloc (.cells x.cells.toArray 149)) pZ.cells.toArray pZ.cells.toArray rfl rfl rfl iPtr2 rfl (cells_one pZ)) ?_) | (refine wpList_isW rfl _ _ (exec_load _ _ _ _ rfl rfl (loadPt_run _ w.heap.size (0 + 4) x.t D2.out.t)) ?_) | fail)
      go_ret
      exact retD (by rw [HR.out, E.out]; simp) KB.out
    · skip
      by_cases h2 : x.b < 0
      · have E := hid (show btw x.b 0 63 = false by simp [btw]; omega)
        clear c0
        go_enter Try.func86, Try.ntmps86
        go_wp2_with (first | go_big_skip | (refine wpList_is rfl _ _ (exec_box 149 _ x.cells.toArray rfl rfl) ?_) | (refine wpList_is rfl _ _ (exec_alloc 147 pZ.cells.toArray iPtr2 rfl) ?_) | (refine wpList_is rfl _ _ (exec_buildPtZ rfl) ?_) | (refine wpList_noval rfl _ (exec_storeNew 147 _ _ rfl (w.alloc (.cells x.cells.toArray 149)) pZ.cells.toArray pZ.cells.toArray rfl rfl rfl iPtr2 rfl (cells_one pZ)) ?_) | (refine wpList_isW rfl _ _ (exec_load _ _ _ _ rfl rfl (loadPt_run _ w.heap.size (0 + 4) x.t D2.out.t)) ?_) | fail)
        go_ret
        exact retD (by rw [HR.out, E.out]; simp) KB.out
      · skip
        by_cases h3 : 64 ≤ x.b
        · have E := hid (show btw x.b 0 63 = false by simp [btw]; omega)
          clear c0
          go_enter Try.func86, Try.ntmps86
          go_wp2_with (first | go_big_skip | (refine wpList_is rfl _ _ (exec_box 149 _ x.cells.toArray rfl rfl) ?_) | (refine wpList_is rfl _ _ (exec_alloc 147 pZ.cells.toArray iPtr2 rfl) ?_) | (refine wpList_is rfl _ _ (exec_buildPtZ rfl) ?_) | (refine wpList_noval rfl _ (exec_storeNew 147 _ _ rfl (w.alloc (.cells x.cells.toArray 149)) pZ.cells.toArray pZ.cells.toArray rfl rfl rfl iPtr2 rfl (cells_one pZ)) ?_) | (refine wpList_isW rfl _ _ (exec_load _ _ _ _ rfl rfl (loadPt_run _ w.heap.size (0 + 4) x.t D2.out.t)) ?_) | fail)
          go_ret
          exact retD (by rw [HR.out, E.out]; simp) KB.out
        · skip
          by_cases h4 : x.s < 0
          · have E := hid (show btw x.s 0 4096 = false by simp [btw]; omega)
            clear c0
            go_enter Try.func86, Try.ntmps86
            go_wp2_with (first | go_big_skip | (refine wpList_is rfl _ _ (exec_box 149 _ x.cells.toArray rfl rfl) ?_) | (refine wpList_is rfl _ _ (exec_alloc 147 pZ.cells.toArray iPtr2 rfl) ?_) | (refine wpList_is rfl _ _ (exec_buildPtZ rfl) ?_) | (refine wpList_noval rfl _ (exec_storeNew 147 _ _ rfl (w.alloc (.cells x.cells.toArray 149)) pZ.cells.toArray pZ.cells.toArray rfl rfl rfl iPtr2 rfl (cells_one pZ)) ?_) | (refine wpList_isW rfl _ _ (exec_load _ _ _ _ rfl rfl (loadPt_run _ w.heap.size (0 + 4) x.t D2.out.t)) ?_) | fail)
            go_ret
            exact retD (by rw [HR.out, E.out]; simp) KB.out
          · skip
            by_cases h5 : 4096 < x.s
            · have E := hid (show btw x.s 0 4096 = false by simp [btw]; omega)
              clear c0
              go_enter Try.func86, Try.ntmps86
              go_wp2_with (first | go_big_skip | (refine wpList_is rfl _ _ (exec_box 149 _ x.cells.toArray rfl rfl) ?_) | (refine wpList_is rfl _ _ (exec_alloc 147 pZ.cells.toArray iPtr2 rfl) ?_) | (refine wpList_is rfl _ _ (exec_buildPtZ rfl) ?_) | (refine wpList_noval rfl _ (exec_storeNew 147 _ _ rfl (w.alloc (.cells x.cells.toArray 149)) pZ.cells.toArray pZ.cells.toArray rfl rfl rfl iPtr2 rfl (cells_one pZ)) ?_) | (refine wpList_isW rfl _ _ (exec_load _ _ _ _ rfl rfl (loadPt_run _ w.heap.size (0 + 4) x.t D2.out.t)) ?_) | fail)
              go_ret
              exact retD (by rw [HR.out, E.out]; simp) KB.out
            · skip
              have B := hid (show (btw x.i 2 128 && btw x.b 0 63 && btw x.s 0 4096) = true by simp [btw]; omega)
              rw [B.out, Bool.true_and] at HR
              cases m1 : mayP x.t with
              | false =>
                have M1 := hid m1
                clear m1 c0
                go_enter Try.func86, Try.ntmps86
                go_wp2_with (first | go_big_skip | (refine wpList_is rfl _ _ (exec_box 149 _ x.cells.toArray rfl rfl) ?_) | (refine wpList_is rfl _ _ (exec_alloc 147 pZ.cells.toArray iPtr2 rfl) ?_) | (refine wpList_is rfl _ _ (exec_buildPtZ rfl) ?_) | (refine wpList_noval rfl _ (exec_storeNew 147 _ _ rfl (w.alloc (.cells x.cells.toArray 149)) pZ.cells.toArray pZ.cells.toArray rfl rfl rfl iPtr2 rfl (cells_one pZ)) ?_) | (refine wpList_isW rfl _ _ (exec_load _ _ _ _ rfl rfl (loadPt_run _ w.heap.size (0 + 4) x.t D2.out.t)) ?_) | fail)
                refine (rMayPtr_any _ x.t).mono ?_
                rintro e w3 ⟨rfl, k3⟩
                rw [M1.out]
                have K3 := hid k3
                clear k3 c1 c2 c3
                go_wp2_with fail
                go_ret
                exact retD (by rw [HR.out, M1.out]; rfl) (KB.out.trans K3.out)
              | true =>
                have M1 := hid m1
                clear m1
                cases m2 : mayP x.o with
                | false =>
                  have M2 := hid m2
                  clear m2 c0
                  go_enter Try.func86, Try.ntmps86
                  go_wp2_with (first | go_big_skip | (refine wpList_is rfl _ _ (exec_box 149 _ x.cells.toArray rfl rfl) ?_) | (refine wpList_is rfl _ _ (exec_alloc 147 pZ.cells.toArray iPtr2 rfl) ?_) | (refine wpList_is rfl _ _ (exec_buildPtZ rfl) ?_) | (refine wpList_noval rfl _ (exec_storeNew 147 _ _ rfl (w.alloc (.cells x.cells.toArray 149)) pZ.cells.toArray pZ.cells.toArray rfl rfl rfl iPtr2 rfl (cells_one pZ)) ?_) | (refine wpList_isW rfl _ _ (exec_load _ _ _ _ rfl rfl (loadPt_run _ w.heap.size (0 + 4) x.t D2.out.t)) ?_) | fail)
                  refine (rMayPtr_any _ x.t).mono ?_
                  rintro e w3 ⟨rfl, k3⟩
                  rw [M1.out]
                  have K3 := hid k3
                  clear k3
                  go_wp2_with (first | (refine wpList_isW rfl _ _ (exec_load _ _ _ _ rfl rfl (loadPt_run _ w.heap.size (0 + 9) x.o (range_keep D2.out.o K3.out (by simp)))) ?_) | fail)
                  refine (rMayPtr_any _ x.o).mono ?_
                  rintro e w4 ⟨rfl, k4⟩
                  rw [M2.out]
                  have K4 := hid (K3.out.trans k4)
                  have d4 := D2.out.keep K4.out (by simp)
                  have c0 := d4.c0
                  have c2 := d4.c2
                  have c3 := d4.c3
                  simp only [Nat.zero_add] at c2 c3
                  clear k4 d4
                  go_wp2_with fail
                  go_ret
                  exact retD (by rw [HR.out, M1.out, M2.out]; rfl) (KB.out.trans K4.out)
                | true =>
                  have M2 := hid m2
                  clear m2
                  rw [M1.out, M2.out, Bool.true_and, Bool.true_and] at HR
                  unfold kindD at HR
                  by_cases h7 : x.d = 1
                  · have e1 : (x.d == 1) = true := by simpa using h7
                    rw [if_pos h7] at HR
                    clear h7
                    go_enter Try.func86, Try.ntmps86
                    go_wp2_with (first | go_big_skip | (refine wpList_is rfl _ _ (exec_box 149 _ x.cells.toArray rfl rfl) ?_) | (refine wpList_is rfl _ _ (exec_alloc 147 pZ.cells.toArray iPtr2 rfl) ?_) | (refine wpList_is rfl _ _ (exec_buildPtZ rfl) ?_) | (refine wpList_noval rfl _ (exec_storeNew 147 _ _ rfl (w.alloc (.cells x.cells.toArray 149)) pZ.cells.toArray pZ.cells.toArray rfl rfl rfl iPtr2 rfl (cells_one pZ)) ?_) | (refine wpList_isW rfl _ _ (exec_load _ _ _ _ rfl rfl (loadPt_run _ w.heap.size (0 + 4) x.t D2.out.t)) ?_) | fail)
                    refine (rMayPtr_any _ x.t).mono ?_
                    rintro e w3 ⟨rfl, k3⟩
                    rw [M1.out]
                    have K3 := hid k3
                    clear k3
                    go_wp2_with (first | (refine wpList_isW rfl _ _ (exec_load _ _ _ _ rfl rfl (loadPt_run _ w.heap.size (0 + 9) x.o (range_keep D2.out.o K3.out (by simp)))) ?_) | fail)
                    refine (rMayPtr_any _ x.o).mono ?_
                    rintro e w4 ⟨rfl, k4⟩
                    rw [M2.out]
                    have K4 := hid (K3.out.trans k4)
                    have d4 := D2.out.keep K4.out (by simp)
                    have c0 := d4.c0
                    have c2 := d4.c2
                    have c3 := d4.c3
                    simp only [Nat.zero_add] at c2 c3
                    clear k4 d4
                    go_wp2_with (first | go_big_skip | (refine wpList_isW rfl _ _ (exec_load _ _ _ _ rfl rfl (loadPt_run _ w.heap.size (0 + 9) x.o (range_keep D2.out.o K4.out (by simp)))) ?_) | (refine wpList_isW rfl _ _ (exec_load _ _ _ _ rfl rfl (loadPt_run _ w.heap.size (0 + 4) x.t (range_keep D2.out.t K4.out (by simp)))) ?_) | (refine wpList_isW rfl _ _ (exec_load _ _ _ _ rfl rfl (loadPt_run _ (w.heap.size + 1) 0 pZ (range_keep RZ.out K4.out (by simp)))) ?_) | (refine wpList_isW rfl _ _ (exec_eqPts _ _ _ x.o pZ rfl rfl rfl) ?_) | (refine wpList_isW rfl _ _ (exec_eqPts _ _ _ x.t pZ rfl rfl rfl) ?_) | fail)
                    go_ret
                    exact retD HR.out.symm (KB.out.trans K4.out)
                  · have e1 : (x.d == 1) = false := by simpa using h7
                    rw [if_neg h7] at HR
                    clear h7
                    by_cases h8 : x.d = 2
                    · have e2 : (x.d == 2) = true := by simpa using h8
                      rw [if_pos h8] at HR
                      clear h8
                      cases a2 : eqP x.o pZ with
                      | false =>
                        have HR' := hid (show r = false from by rw [HR.out, show zB x.o = eqP x.o pZ from rfl, a2]; simp)
                        go_enter Try.func86, Try.ntmps86
                        go_wp2_with (first | go_big_skip | (refine wpList_is rfl _ _ (exec_box 149 _ x.cells.toArray rfl rfl) ?_) | (refine wpList_is rfl _ _ (exec_alloc 147 pZ.cells.toArray iPtr2 rfl) ?_) | (refine wpList_is rfl _ _ (exec_buildPtZ rfl) ?_) | (refine wpList_noval rfl _ (exec_storeNew 147 _ _ rfl (w.alloc (.cells x.cells.toArray 149)) pZ.cells.toArray pZ.cells.toArray rfl rfl rfl iPtr2 rfl (cells_one pZ)) ?_) | (refine wpList_isW rfl _ _ (exec_load _ _ _ _ rfl rfl (loadPt_run _ w.heap.size (0 + 4) x.t D2.out.t)) ?_) | fail)
                        refine (rMayPtr_any _ x.t).mono ?_
                        rintro e w3 ⟨rfl, k3⟩
                        rw [M1.out]
                        have K3 := hid k3
                        clear k3
                        go_wp2_with (first | (refine wpList_isW rfl _ _ (exec_load _ _ _ _ rfl rfl (loadPt_run _ w.heap.size (0 + 9) x.o (range_keep D2.out.o K3.out (by simp)))) ?_) | fail)
                        refine (rMayPtr_any _ x.o).mono ?_
                        rintro e w4 ⟨rfl, k4⟩
                        rw [M2.out]
                        have K4 := hid (K3.out.trans k4)
                        have d4 := D2.out.keep K4.out (by simp)
                        have c0 := d4.c0
                        have c2 := d4.c2
                        have c3 := d4.c3
                        simp only [Nat.zero_add] at c2 c3
                        clear k4 d4
                        go_wp2_with (first | go_big_skip | (refine wpList_isW rfl _ _ (exec_load _ _ _ _ rfl rfl (loadPt_run _ w.heap.size (0 + 9) x.o (range_keep D2.out.o K4.out (by simp)))) ?_) | (refine wpList_isW rfl _ _ (exec_load _ _ _ _ rfl rfl (loadPt_run _ w.heap.size (0 + 4) x.t (range_keep D2.out.t K4.out (by simp)))) ?_) | (refine wpList_isW rfl _ _ (exec_load _ _ _ _ rfl rfl (loadPt_run _ (w.heap.size + 1) 0 pZ (range_keep RZ.out K4.out (by simp)))) ?_) | (refine wpList_isW rfl _ _ (exec_eqPts _ _ _ x.o pZ rfl rfl rfl) ?_) | (refine wpList_isW rfl _ _ (exec_eqPts _ _ _ x.t pZ rfl rfl rfl) ?_) | fail)
                        go_ret
                        exact retD HR'.out.symm (KB.out.trans K4.out)
                      | true =>
                        cases a1 : eqP x.t pZ with
                        | false =>
                          have HR' := hid (show r = false from by rw [HR.out, show zB x.t = eqP x.t pZ from rfl, a1]; simp)
                          go_enter Try.func86, Try.ntmps86
                          go_wp2_with (first | go_big_skip | (refine wpList_is rfl _ _ (exec_box 149 _ x.cells.toArray rfl rfl) ?_) | (refine wpList_is rfl _ _ (exec_alloc 147 pZ.cells.toArray iPtr2 rfl) ?_) | (refine wpList_is rfl _ _ (exec_buildPtZ rfl) ?_) | (refine wpList_noval rfl _ (exec_storeNew 147 _ _ rfl (w.alloc (.cells x.cells.toArray 149)) pZ.cells.toArray pZ.cells.toArray rfl rfl rfl iPtr2 rfl (cells_one pZ)) ?_) | (refine wpList_isW rfl _ _ (exec_load _ _ _ _ rfl rfl (loadPt_run _ w.heap.size (0 + 4) x.t D2.out.t)) ?_) | fail)
                          refine (rMayPtr_any _ x.t).mono ?_
                          rintro e w3 ⟨rfl, k3⟩
                          rw [M1.out]
                          have K3 := hid k3
                          clear k3
                          go_wp2_with (first | (refine wpList_isW rfl _ _ (exec_load _ _ _ _ rfl rfl (loadPt_run _ w.heap.size (0 + 9) x.o (range_keep D2.out.o K3.out (by simp)))) ?_) | fail)
                          refine (rMayPtr_any _ x.o).mono ?_
                          rintro e w4 ⟨rfl, k4⟩
                          rw [M2.out]
                          have K4 := hid (K3.out.trans k4)
                          have d4 := D2.out.keep K4.out (by simp)
                          have c0 := d4.c0
                          have c2 := d4.c2
                          have c3 := d4.c3
                          simp only [Nat.zero_add] at c2 c3
                          clear k4 d4
                          go_wp2_with (first | go_big_skip | (refine wpList_isW rfl _ _ (exec_load _ _ _ _ rfl rfl (loadPt_run _ w.heap.size (0 + 9) x.o (range_keep D2.out.o K4.out (by simp)))) ?_) | (refine wpList_isW rfl _ _ (exec_load _ _ _ _ rfl rfl (loadPt_run _ w.heap.size (0 + 4) x.t (range_keep D2.out.t K4.out (by simp)))) ?_) | (refine wpList_isW rfl _ _ (exec_load _ _ _ _ rfl rfl (loadPt_run _ (w.heap.size + 1) 0 pZ (range_keep RZ.out K4.out (by simp)))) ?_) | (refine wpList_isW rfl _ _ (exec_eqPts _ _ _ x.o pZ rfl rfl rfl) ?_) | (refine wpList_isW rfl _ _ (exec_eqPts _ _ _ x.t pZ rfl rfl rfl) ?_) | fail)
                          go_ret
                          exact retD HR'.out.symm (KB.out.trans K4.out)
                        | true =>
                          have HR' := hid (show r = (x.b == 0) from by rw [HR.out, show zB x.t = eqP x.t pZ from rfl, show zB x.o = eqP x.o pZ from rfl, a1, a2]; rfl)
                          go_enter Try.func86, Try.ntmps86
                          go_wp2_with (first | go_big_skip | (refine wpList_is rfl _ _ (exec_box 149 _ x.cells.toArray rfl rfl) ?_) | (refine wpList_is rfl _ _ (exec_alloc 147 pZ.cells.toArray iPtr2 rfl) ?_) | (refine wpList_is rfl _ _ (exec_buildPtZ rfl) ?_) | (refine wpList_noval rfl _ (exec_storeNew 147 _ _ rfl (w.alloc (.cells x.cells.toArray 149)) pZ.cells.toArray pZ.cells.toArray rfl rfl rfl iPtr2 rfl (cells_one pZ)) ?_) | (refine wpList_isW rfl _ _ (exec_load _ _ _ _ rfl rfl (loadPt_run _ w.heap.size (0 + 4) x.t D2.out.t)) ?_) | fail)
                          refine (rMayPtr_any _ x.t).mono ?_
                          rintro e w3 ⟨rfl, k3⟩
                          rw [M1.out]
                          have K3 := hid k3
                          clear k3
                          go_wp2_with (first | (refine wpList_isW rfl _ _ (exec_load _ _ _ _ rfl rfl (loadPt_run _ w.heap.size (0 + 9) x.o (range_keep D2.out.o K3.out (by simp)))) ?_) | fail)
                          refine (rMayPtr_any _ x.o).mono ?_
                          rintro e w4 ⟨rfl, k4⟩
                          rw [M2.out]
                          have K4 := hid (K3.out.trans k4)
                          have d4 := D2.out.keep K4.out (by simp)
                          have c0 := d4.c0
                          have c2 := d4.c2
                          have c3 := d4.c3
                          simp only [Nat.zero_add] at c2 c3
                          clear k4 d4
                          go_wp2_with (first | go_big_skip | (refine wpList_isW rfl _ _ (exec_load _ _ _ _ rfl rfl (loadPt_run _ w.heap.size (0 + 9) x.o (range_keep D2.out.o K4.out (by simp)))) ?_) | (refine wpList_isW rfl _ _ (exec_load _ _ _ _ rfl rfl (loadPt_run _ w.heap.size (0 + 4) x.t (range_keep D2.out.t K4.out (by simp)))) ?_) | (refine wpList_isW rfl _ _ (exec_load _ _ _ _ rfl rfl (loadPt_run _ (w.heap.size + 1) 0 pZ (range_keep RZ.out K4.out (by simp)))) ?_) | (refine wpList_isW rfl _ _ (exec_eqPts _ _ _ x.o pZ rfl rfl rfl) ?_) | (refine wpList_isW rfl _ _ (exec_eqPts _ _ _ x.t pZ rfl rfl rfl) ?_) | fail)
                          go_ret
                          exact retD HR'.out.symm (KB.out.trans K4.out)
                    · have e2 : (x.d == 2) = false := by simpa using h8
                      rw [if_neg h8] at HR
                      clear h8
                      by_cases h9 : x.d = 3
                      · have e3 : (x.d == 3) = true := by simpa using h9
                        rw [if_pos h9] at HR
                        clear h9
                        go_enter Try.func86, Try.ntmps86
                        go_wp2_with (first | go_big_skip | (refine wpList_is rfl _ _ (exec_box 149 _ x.cells.toArray rfl rfl) ?_) | (refine wpList_is rfl _ _ (exec_alloc 147 pZ.cells.toArray iPtr2 rfl) ?_) | (refine wpList_is rfl _ _ (exec_buildPtZ rfl) ?_) | (refine wpList_noval rfl _ (exec_storeNew 147 _ _ rfl (w.alloc (.cells x.cells.toArray 149)) pZ.cells.toArray pZ.cells.toArray rfl rfl rfl iPtr2 rfl (cells_one pZ)) ?_) | (refine wpList_isW rfl _ _ (exec_load _ _ _ _ rfl rfl (loadPt_run _ w.heap.size (0 + 4) x.t D2.out.t)) ?_) | fail)
                        refine (rMayPtr_any _ x.t).mono ?_
                        rintro e w3 ⟨rfl, k3⟩
                        rw [M1.out]
                        have K3 := hid k3
                        clear k3
                        go_wp2_with (first | (refine wpList_isW rfl _ _ (exec_load _ _ _ _ rfl rfl (loadPt_run _ w.heap.size (0 + 9) x.o (range_keep D2.out.o K3.out (by simp)))) ?_) | fail)
                        refine (rMayPtr_any _ x.o).mono ?_
                        rintro e w4 ⟨rfl, k4⟩
                        rw [M2.out]
                        have K4 := hid (K3.out.trans k4)
                        have d4 := D2.out.keep K4.out (by simp)
                        have c0 := d4.c0
                        have c2 := d4.c2
                        have c3 := d4.c3
                        simp only [Nat.zero_add] at c2 c3
                        clear k4 d4
                        go_wp2_with (first | go_big_skip | (refine wpList_isW rfl _ _ (exec_load _ _ _ _ rfl rfl (loadPt_run _ w.heap.size (0 + 9) x.o (range_keep D2.out.o K4.out (by simp)))) ?_) | (refine wpList_isW rfl _ _ (exec_load _ _ _ _ rfl rfl (loadPt_run _ w.heap.size (0 + 4) x.t (range_keep D2.out.t K4.out (by simp)))) ?_) | (refine wpList_isW rfl _ _ (exec_load _ _ _ _ rfl rfl (loadPt_run _ (w.heap.size + 1) 0 pZ (range_keep RZ.out K4.out (by simp)))) ?_) | (refine wpList_isW rfl _ _ (exec_eqPts _ _ _ x.o pZ rfl rfl rfl) ?_) | (refine wpList_isW rfl _ _ (exec_eqPts _ _ _ x.t pZ rfl rfl rfl) ?_) | fail)
                        go_ret
                        exact retD HR.out.symm (KB.out.trans K4.out)
                      · have e3 : (x.d == 3) = false := by simpa using h9
                        rw [if_neg h9] at HR
                        clear h9
                        go_enter Try.func86, Try.ntmps86
                        go_wp2_with (first | go_big_skip | (refine wpList_is rfl _ _ (exec_box 149 _ x.cells.toArray rfl rfl) ?_) | (refine wpList_is rfl _ _ (exec_alloc 147 pZ.cells.toArray iPtr2 rfl) ?_) | (refine wpList_is rfl _ _ (exec_buildPtZ rfl) ?_) | (refine wpList_noval rfl _ (exec_storeNew 147 _ _ rfl (w.alloc (.cells x.cells.toArray 149)) pZ.cells.toArray pZ.cells.toArray rfl rfl rfl iPtr2 rfl (cells_one pZ)) ?_) | (refine wpList_isW rfl _ _ (exec_load _ _ _ _ rfl rfl (loadPt_run _ w.heap.size (0 + 4) x.t D2.out.t)) ?_) | fail)
                        refine (rMayPtr_any _ x.t).mono ?_
                        rintro e w3 ⟨rfl, k3⟩
                        rw [M1.out]
                        have K3 := hid k3
                        clear k3
                        go_wp2_with (first | (refine wpList_isW rfl _ _ (exec_load _ _ _ _ rfl rfl (loadPt_run _ w.heap.size (0 + 9) x.o (range_keep D2.out.o K3.out (by simp)))) ?_) | fail)
                        refine (rMayPtr_any _ x.o).mono ?_
                        rintro e w4 ⟨rfl, k4⟩
                        rw [M2.out]
                        have K4 := hid (K3.out.trans k4)
                        have d4 := D2.out.keep K4.out (by simp)
                        have c0 := d4.c0
                        have c2 := d4.c2
                        have c3 := d4.c3
                        simp only [Nat.zero_add] at c2 c3
                        clear k4 d4
                        go_wp2_with (first | go_big_skip | (refine wpList_isW rfl _ _ (exec_load _ _ _ _ rfl rfl (loadPt_run _ w.heap.size (0 + 9) x.o (range_keep D2.out.o K4.out (by simp)))) ?_) | (refine wpList_isW rfl _ _ (exec_load _ _ _ _ rfl rfl (loadPt_run _ w.heap.size (0 + 4) x.t (range_keep D2.out.t K4.out (by simp)))) ?_) | (refine wpList_isW rfl _ _ (exec_load _ _ _ _ rfl rfl (loadPt_run _ (w.heap.size + 1) 0 pZ (range_keep RZ.out K4.out (by simp)))) ?_) | (refine wpList_isW rfl _ _ (exec_eqPts _ _ _ x.o pZ rfl rfl rfl) ?_) | (refine wpList_isW rfl _ _ (exec_eqPts _ _ _ x.t pZ rfl rfl rfl) ?_) | fail)
                        go_ret
                        exact retD HR.out.symm (KB.out.trans K4.out)
end Go.Proofs.Ytoglcohdanpciaa
