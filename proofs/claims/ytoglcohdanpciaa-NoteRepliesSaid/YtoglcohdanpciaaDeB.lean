/- delta: isOfItsKind, May, mayNot. -/
import Derived.Test.YtoglcohdanpciaaDeA
namespace Go.Proofs.Ytoglcohdanpciaa
open Go.RowKit Go.Shelf
set_option maxRecDepth 100000
set_option linter.unusedSimpArgs false

theorem retD {a b : Bool} {w w' : World} (h : b = a) (k : Keeps [] w w') : MayPost w a (.returned (.bool b)) w' := ⟨by rw [h], k⟩
set_option maxHeartbeats 6400000 in
theorem dKind_any (w : World) (x : Dl) : Calls Try.prog 193 #[dlV x] w (MayPost w (kindD x)) := by
  have ka : Keeps [] w (w.alloc (.cells x.cells.toArray 149)) := (Keeps.refl [] w).alloc _
  have kb : Keeps [] (w.alloc (.cells x.cells.toArray 149)) ((w.alloc (.cells x.cells.toArray 149)).alloc (.cells pZ.cells.toArray 147)) := (Keeps.refl [] _).alloc _
  have d2 := (dl_range (range_new w x.cells 149)).keep kb (by simp)
  have D2 := hid d2
  have rz := range_new (w.alloc (.cells x.cells.toArray 149)) pZ.cells 147
  rw [World.size_alloc] at rz
  have RZ := hid rz
  have KB := hid (ka.trans kb)
  have c0 := d2.c0
  have c2 := d2.c2
  have c3 := d2.c3
  simp only [Nat.zero_add] at c2 c3
  obtain ⟨r, hr⟩ : ∃ r, r = kindD x := ⟨_, rfl⟩
  rw [← hr]
  unfold kindD at hr
  have HR := hid hr
  clear ka kb d2 rz hr
  by_cases h1 : x.d = 1
  · have e1 : (x.d == 1) = true := by simpa using h1
    rw [if_pos h1] at HR
    clear h1 c2 c3
    go_enter Try.func193, Try.ntmps193
    go_wp2_with (first | go_big_skip | (refine wpList_is rfl _ _ (exec_box 149 _ x.cells.toArray rfl rfl) ?_) | (refine wpList_is rfl _ _ (exec_alloc 147 pZ.cells.toArray iPtr2 rfl) ?_) | (refine wpList_isW rfl _ _ (exec_load _ _ _ _ rfl rfl (loadPt_run _ w.heap.size (0 + 9) x.o D2.out.o)) ?_) | (refine wpList_isW rfl _ _ (exec_load _ _ _ _ rfl rfl (loadPt_run _ w.heap.size (0 + 4) x.t D2.out.t)) ?_) | (refine wpList_isW rfl _ _ (exec_load _ _ _ _ rfl rfl (loadPt_run _ (w.heap.size + 1) 0 pZ RZ.out)) ?_) | (refine wpList_isW rfl _ _ (exec_eqPts _ _ _ x.o pZ rfl rfl rfl) ?_) | (refine wpList_isW rfl _ _ (exec_eqPts _ _ _ x.t pZ rfl rfl rfl) ?_) | fail)
    go_ret
    exact retD HR.out.symm KB.out
  · have e1 : (x.d == 1) = false := by simpa using h1
    rw [if_neg h1] at HR
    clear h1
    by_cases h2 : x.d = 2
    · have e2 : (x.d == 2) = true := by simpa using h2
      rw [if_pos h2] at HR
      clear h2 c3
      cases a1 : eqP x.t pZ with
      | false =>
        have HR' := hid (show r = false from by rw [HR.out, show zB x.t = eqP x.t pZ from rfl, a1]; rfl)
        clear c2
        go_enter Try.func193, Try.ntmps193
        go_wp2_with (first | go_big_skip | (refine wpList_is rfl _ _ (exec_box 149 _ x.cells.toArray rfl rfl) ?_) | (refine wpList_is rfl _ _ (exec_alloc 147 pZ.cells.toArray iPtr2 rfl) ?_) | (refine wpList_isW rfl _ _ (exec_load _ _ _ _ rfl rfl (loadPt_run _ w.heap.size (0 + 9) x.o D2.out.o)) ?_) | (refine wpList_isW rfl _ _ (exec_load _ _ _ _ rfl rfl (loadPt_run _ w.heap.size (0 + 4) x.t D2.out.t)) ?_) | (refine wpList_isW rfl _ _ (exec_load _ _ _ _ rfl rfl (loadPt_run _ (w.heap.size + 1) 0 pZ RZ.out)) ?_) | (refine wpList_isW rfl _ _ (exec_eqPts _ _ _ x.o pZ rfl rfl rfl) ?_) | (refine wpList_isW rfl _ _ (exec_eqPts _ _ _ x.t pZ rfl rfl rfl) ?_) | fail)
        go_ret
        exact retD HR'.out.symm KB.out
      | true =>
        cases a2 : eqP x.o pZ with
        | false =>
          have HR' := hid (show r = false from by rw [HR.out, show zB x.o = eqP x.o pZ from rfl, a2]; simp)
          clear c2
          go_enter Try.func193, Try.ntmps193
          go_wp2_with (first | go_big_skip | (refine wpList_is rfl _ _ (exec_box 149 _ x.cells.toArray rfl rfl) ?_) | (refine wpList_is rfl _ _ (exec_alloc 147 pZ.cells.toArray iPtr2 rfl) ?_) | (refine wpList_isW rfl _ _ (exec_load _ _ _ _ rfl rfl (loadPt_run _ w.heap.size (0 + 9) x.o D2.out.o)) ?_) | (refine wpList_isW rfl _ _ (exec_load _ _ _ _ rfl rfl (loadPt_run _ w.heap.size (0 + 4) x.t D2.out.t)) ?_) | (refine wpList_isW rfl _ _ (exec_load _ _ _ _ rfl rfl (loadPt_run _ (w.heap.size + 1) 0 pZ RZ.out)) ?_) | (refine wpList_isW rfl _ _ (exec_eqPts _ _ _ x.o pZ rfl rfl rfl) ?_) | (refine wpList_isW rfl _ _ (exec_eqPts _ _ _ x.t pZ rfl rfl rfl) ?_) | fail)
          go_ret
          exact retD HR'.out.symm KB.out
        | true =>
          have HR' := hid (show r = (x.b == 0) from by rw [HR.out, show zB x.t = eqP x.t pZ from rfl, show zB x.o = eqP x.o pZ from rfl, a1, a2]; rfl)
          go_enter Try.func193, Try.ntmps193
          go_wp2_with (first | go_big_skip | (refine wpList_is rfl _ _ (exec_box 149 _ x.cells.toArray rfl rfl) ?_) | (refine wpList_is rfl _ _ (exec_alloc 147 pZ.cells.toArray iPtr2 rfl) ?_) | (refine wpList_isW rfl _ _ (exec_load _ _ _ _ rfl rfl (loadPt_run _ w.heap.size (0 + 9) x.o D2.out.o)) ?_) | (refine wpList_isW rfl _ _ (exec_load _ _ _ _ rfl rfl (loadPt_run _ w.heap.size (0 + 4) x.t D2.out.t)) ?_) | (refine wpList_isW rfl _ _ (exec_load _ _ _ _ rfl rfl (loadPt_run _ (w.heap.size + 1) 0 pZ RZ.out)) ?_) | (refine wpList_isW rfl _ _ (exec_eqPts _ _ _ x.o pZ rfl rfl rfl) ?_) | (refine wpList_isW rfl _ _ (exec_eqPts _ _ _ x.t pZ rfl rfl rfl) ?_) | fail)
          go_ret
          exact retD HR'.out.symm KB.out
    · have e2 : (x.d == 2) = false := by simpa using h2
      rw [if_neg h2] at HR
      clear h2 c2
      by_cases h3 : x.d = 3
      · have e3 : (x.d == 3) = true := by simpa using h3
        rw [if_pos h3] at HR
        clear h3
        go_enter Try.func193, Try.ntmps193
        go_wp2_with (first | go_big_skip | (refine wpList_is rfl _ _ (exec_box 149 _ x.cells.toArray rfl rfl) ?_) | (refine wpList_is rfl _ _ (exec_alloc 147 pZ.cells.toArray iPtr2 rfl) ?_) | (refine wpList_isW rfl _ _ (exec_load _ _ _ _ rfl rfl (loadPt_run _ w.heap.size (0 + 9) x.o D2.out.o)) ?_) | (refine wpList_isW rfl _ _ (exec_load _ _ _ _ rfl rfl (loadPt_run _ w.heap.size (0 + 4) x.t D2.out.t)) ?_) | (refine wpList_isW rfl _ _ (exec_load _ _ _ _ rfl rfl (loadPt_run _ (w.heap.size + 1) 0 pZ RZ.out)) ?_) | (refine wpList_isW rfl _ _ (exec_eqPts _ _ _ x.o pZ rfl rfl rfl) ?_) | (refine wpList_isW rfl _ _ (exec_eqPts _ _ _ x.t pZ rfl rfl rfl) ?_) | fail)
        go_ret
        exact retD HR.out.symm KB.out
      · have e3 : (x.d == 3) = false := by simpa using h3
        rw [if_neg h3] at HR
        clear h3 c3
        go_enter Try.func193, Try.ntmps193
        go_wp2_with (first | go_big_skip | (refine wpList_is rfl _ _ (exec_box 149 _ x.cells.toArray rfl rfl) ?_) | (refine wpList_is rfl _ _ (exec_alloc 147 pZ.cells.toArray iPtr2 rfl) ?_) | (refine wpList_isW rfl _ _ (exec_load _ _ _ _ rfl rfl (loadPt_run _ w.heap.size (0 + 9) x.o D2.out.o)) ?_) | (refine wpList_isW rfl _ _ (exec_load _ _ _ _ rfl rfl (loadPt_run _ w.heap.size (0 + 4) x.t D2.out.t)) ?_) | (refine wpList_isW rfl _ _ (exec_load _ _ _ _ rfl rfl (loadPt_run _ (w.heap.size + 1) 0 pZ RZ.out)) ?_) | (refine wpList_isW rfl _ _ (exec_eqPts _ _ _ x.o pZ rfl rfl rfl) ?_) | (refine wpList_isW rfl _ _ (exec_eqPts _ _ _ x.t pZ rfl rfl rfl) ?_) | fail)
        go_ret
        exact retD HR.out.symm KB.out

set_option maxHeartbeats 6400000 in
theorem dMay_any (w : World) (x : Dl) : Calls Try.prog 177 #[dlV x] w (MayPost w (mayL x)) := by
  have ka : Keeps [] w (w.alloc (.cells x.cells.toArray 149)) := (Keeps.refl [] w).alloc _
  have rn := range_new w x.cells 149
  have RN := hid rn
  have da := dl_range rn
  have DA := hid da
  have KA := hid ka
  have HS := hid (show w.heap.size < (w.alloc (.cells x.cells.toArray 149)).heap.size by simp)
  have c1 := da.c1
  have c2 := da.c2
  have c3 := da.c3
  simp only [Nat.zero_add] at c1 c2 c3
  obtain ⟨r, hr⟩ : ∃ r, r = mayL x := ⟨_, rfl⟩
  rw [← hr]
  unfold mayL at hr
  have HR := hid hr
  clear hr da ka rn
  cases h0 : btw x.i 2 128 with
  | false =>
    have H0 := hid h0
    clear h0
    go_enter Try.func177, Try.ntmps177
    go_wp2_with (first | (refine wpList_is rfl _ _ (exec_box 149 _ x.cells.toArray rfl rfl) ?_) | fail)
    refine (dwithin_as _ x.i 2 128 _ H0.out).mono ?_
    rintro e _ ⟨rfl, rfl⟩
    go_wp2_with fail
    go_ret
    exact retD (by rw [HR.out, H0.out]; rfl) KA.out
  | true =>
    have H0 := hid h0
    clear h0
    cases h1 : btw x.b 0 63 with
    | false =>
      have H1 := hid h1
      clear h1
      go_enter Try.func177, Try.ntmps177
      go_wp2_with (first | (refine wpList_is rfl _ _ (exec_box 149 _ x.cells.toArray rfl rfl) ?_) | fail)
      refine (dwithin_as _ x.i 2 128 _ H0.out).mono ?_
      rintro e _ ⟨rfl, rfl⟩
      go_wp2_with fail
      refine (dwithin_as _ x.b 0 63 _ H1.out).mono ?_
      rintro e _ ⟨rfl, rfl⟩
      go_wp2_with fail
      go_ret
      exact retD (by rw [HR.out, H0.out, H1.out]; rfl) KA.out
    | true =>
      have H1 := hid h1
      clear h1
      cases h2 : btw x.s 0 4096 with
      | false =>
        have H2 := hid h2
        clear h2
        go_enter Try.func177, Try.ntmps177
        go_wp2_with (first | (refine wpList_is rfl _ _ (exec_box 149 _ x.cells.toArray rfl rfl) ?_) | fail)
        refine (dwithin_as _ x.i 2 128 _ H0.out).mono ?_
        rintro e _ ⟨rfl, rfl⟩
        go_wp2_with fail
        refine (dwithin_as _ x.b 0 63 _ H1.out).mono ?_
        rintro e _ ⟨rfl, rfl⟩
        go_wp2_with fail
        refine (dwithin_as _ x.s 0 4096 _ H2.out).mono ?_
        rintro e _ ⟨rfl, rfl⟩
        go_wp2_with fail
        go_ret
        exact retD (by rw [HR.out, H0.out, H1.out, H2.out]; rfl) KA.out
      | true =>
        have H2 := hid h2
        clear h2
        cases h3 : mayP x.t with
        | false =>
          have H3 := hid h3
          clear h3
          go_enter Try.func177, Try.ntmps177
          go_wp2_with (first | (refine wpList_is rfl _ _ (exec_box 149 _ x.cells.toArray rfl rfl) ?_) | fail)
          refine (dwithin_as _ x.i 2 128 _ H0.out).mono ?_
          rintro e _ ⟨rfl, rfl⟩
          go_wp2_with fail
          refine (dwithin_as _ x.b 0 63 _ H1.out).mono ?_
          rintro e _ ⟨rfl, rfl⟩
          go_wp2_with fail
          refine (dwithin_as _ x.s 0 4096 _ H2.out).mono ?_
          rintro e _ ⟨rfl, rfl⟩
          go_wp2_with (first | (refine wpList_isW rfl _ _ (exec_load _ _ _ _ rfl rfl (loadPt_run _ w.heap.size (0 + 4) x.t DA.out.t)) ?_) | fail)
          refine (may11_any _ x.t).mono ?_
          rintro e w3 ⟨rfl, k3⟩
          rw [H3.out]
          have K3 := hid k3
          clear k3
          go_wp2_with fail
          go_ret
          exact retD (by rw [HR.out, H0.out, H1.out, H2.out, H3.out]; rfl) (KA.out.trans K3.out)
        | true =>
          have H3 := hid h3
          clear h3
          cases h4 : mayP x.o with
          | false =>
            have H4 := hid h4
            clear h4
            go_enter Try.func177, Try.ntmps177
            go_wp2_with (first | (refine wpList_is rfl _ _ (exec_box 149 _ x.cells.toArray rfl rfl) ?_) | fail)
            refine (dwithin_as _ x.i 2 128 _ H0.out).mono ?_
            rintro e _ ⟨rfl, rfl⟩
            go_wp2_with fail
            refine (dwithin_as _ x.b 0 63 _ H1.out).mono ?_
            rintro e _ ⟨rfl, rfl⟩
            go_wp2_with fail
            refine (dwithin_as _ x.s 0 4096 _ H2.out).mono ?_
            rintro e _ ⟨rfl, rfl⟩
            go_wp2_with (first | (refine wpList_isW rfl _ _ (exec_load _ _ _ _ rfl rfl (loadPt_run _ w.heap.size (0 + 4) x.t DA.out.t)) ?_) | fail)
            refine (may11_any _ x.t).mono ?_
            rintro e w3 ⟨rfl, k3⟩
            rw [H3.out]
            have K3 := hid k3
            clear k3
            go_wp2_with (first | (refine wpList_isW rfl _ _ (exec_load _ _ _ _ rfl rfl (loadPt_run _ w.heap.size (0 + 9) x.o (range_keep DA.out.o K3.out (by simp)))) ?_) | fail)
            refine (may11_any _ x.o).mono ?_
            rintro e w4 ⟨rfl, k4⟩
            rw [H4.out]
            have K4 := hid (K3.out.trans k4)
            clear k4
            go_wp2_with fail
            go_ret
            exact retD (by rw [HR.out, H0.out, H1.out, H2.out, H3.out, H4.out]; rfl) (KA.out.trans K4.out)
          | true =>
            have H4 := hid h4
            clear h4
            cases h5 : kindD x with
            | false =>
              have H5 := hid h5
              clear h5
              go_enter Try.func177, Try.ntmps177
              go_wp2_with (first | (refine wpList_is rfl _ _ (exec_box 149 _ x.cells.toArray rfl rfl) ?_) | fail)
              refine (dwithin_as _ x.i 2 128 _ H0.out).mono ?_
              rintro e _ ⟨rfl, rfl⟩
              go_wp2_with fail
              refine (dwithin_as _ x.b 0 63 _ H1.out).mono ?_
              rintro e _ ⟨rfl, rfl⟩
              go_wp2_with fail
              refine (dwithin_as _ x.s 0 4096 _ H2.out).mono ?_
              rintro e _ ⟨rfl, rfl⟩
              go_wp2_with (first | (refine wpList_isW rfl _ _ (exec_load _ _ _ _ rfl rfl (loadPt_run _ w.heap.size (0 + 4) x.t DA.out.t)) ?_) | fail)
              refine (may11_any _ x.t).mono ?_
              rintro e w3 ⟨rfl, k3⟩
              rw [H3.out]
              have K3 := hid k3
              clear k3
              go_wp2_with (first | (refine wpList_isW rfl _ _ (exec_load _ _ _ _ rfl rfl (loadPt_run _ w.heap.size (0 + 9) x.o (range_keep DA.out.o K3.out (by simp)))) ?_) | fail)
              refine (may11_any _ x.o).mono ?_
              rintro e w4 ⟨rfl, k4⟩
              rw [H4.out]
              have K4 := hid (K3.out.trans k4)
              clear k4
              go_wp2_with (first | (refine wpList_isW rfl _ _ (exec_load _ _ _ _ rfl rfl (loadDl_run _ w.heap.size 0 x (range_keep RN.out K4.out (by simp)))) ?_) | fail)
              refine (dKind_any _ x).mono ?_
              rintro e w5 ⟨rfl, k5⟩
              rw [H5.out]
              have K5 := hid (K4.out.trans k5)
              clear k5
              go_wp2_with fail
              go_ret
              exact retD (by rw [HR.out, H0.out, H1.out, H2.out, H3.out, H4.out, H5.out]; rfl) (KA.out.trans K5.out)
            | true =>
              have H5 := hid h5
              clear h5
              go_enter Try.func177, Try.ntmps177
              go_wp2_with (first | (refine wpList_is rfl _ _ (exec_box 149 _ x.cells.toArray rfl rfl) ?_) | fail)
              refine (dwithin_as _ x.i 2 128 _ H0.out).mono ?_
              rintro e _ ⟨rfl, rfl⟩
              go_wp2_with fail
              refine (dwithin_as _ x.b 0 63 _ H1.out).mono ?_
              rintro e _ ⟨rfl, rfl⟩
              go_wp2_with fail
              refine (dwithin_as _ x.s 0 4096 _ H2.out).mono ?_
              rintro e _ ⟨rfl, rfl⟩
              go_wp2_with (first | (refine wpList_isW rfl _ _ (exec_load _ _ _ _ rfl rfl (loadPt_run _ w.heap.size (0 + 4) x.t DA.out.t)) ?_) | fail)
              refine (may11_any _ x.t).mono ?_
              rintro e w3 ⟨rfl, k3⟩
              rw [H3.out]
              have K3 := hid k3
              clear k3
              go_wp2_with (first | (refine wpList_isW rfl _ _ (exec_load _ _ _ _ rfl rfl (loadPt_run _ w.heap.size (0 + 9) x.o (range_keep DA.out.o K3.out (by simp)))) ?_) | fail)
              refine (may11_any _ x.o).mono ?_
              rintro e w4 ⟨rfl, k4⟩
              rw [H4.out]
              have K4 := hid (K3.out.trans k4)
              clear k4
              go_wp2_with (first | (refine wpList_isW rfl _ _ (exec_load _ _ _ _ rfl rfl (loadDl_run _ w.heap.size 0 x (range_keep RN.out K4.out (by simp)))) ?_) | fail)
              refine (dKind_any _ x).mono ?_
              rintro e w5 ⟨rfl, k5⟩
              rw [H5.out]
              have K5 := hid (K4.out.trans k5)
              clear k5
              go_wp2_with fail
              go_ret
              exact retD (by rw [HR.out, H0.out, H1.out, H2.out, H3.out, H4.out, H5.out]; rfl) (KA.out.trans K5.out)

end Go.Proofs.Ytoglcohdanpciaa
