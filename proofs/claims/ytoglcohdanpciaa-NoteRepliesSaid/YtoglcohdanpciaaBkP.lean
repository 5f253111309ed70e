/- blocks: the reference's MayStripe and MayPtr. -/
import Derived.Test.YtoglcohdanpciaaJB2
namespace Go.Proofs.Ytoglcohdanpciaa
open Go.RowKit Go.Shelf
set_option maxRecDepth 100000
set_option linter.unusedSimpArgs false

set_option maxHeartbeats 3200000 in
theorem rMayPtr_any (w : World) (x : Pt) : Calls Try.prog 150 #[ptV x] w fun e w' => e = .returned (.bool (mayP x)) ∧ Keeps [] w w' := by
  have HR := hid (range_new w x.cells 147)
  have KB := hid ((Keeps.refl [] w).alloc (.cells x.cells.toArray 147))
  obtain ⟨r, hr⟩ : ∃ r, r = mayP x := ⟨_, rfl⟩
  rw [← hr]
  have HM := hid hr
  clear hr
  have LS := hid (fun (W : World) (h : W.rangeAt w.heap.size 0 x.cells) => (load_row (t := 30) (d := .struct (Try.prog.fieldsOf 30)) (w := W) (b := w.heap.size) (o := 0) (z := .agg #[.int .i64 0, .int .i64 0, .int .i64 0]) [.int .i64 x.c, .int .i64 x.l, .int .i64 x.n] (by kernel_rfl) rfl (by kernel_rfl) (fun j v hv => h j v (by
    have hj := (List.getElem?_eq_some_iff.1 hv).1
    simp at hj
    match j, hj, hv with
    | 0, _, hv => exact hv
    | 1, _, hv => exact hv
    | 2, _, hv => exact hv))))
  cases h0 : zB x with
  | true =>
    have Z := hid h0
    have Z2 := hid (show eqP x pZ = true from eqP_is.2 (zB_is.1 h0))
    clear h0
    go_enter Try.func150, Try.ntmps150
    go_wp2_with (first | (refine wpList_boxPt rfl _ rfl x rfl ?_) | (refine wpList_loadPt rfl _ rfl w.heap.size 0 rfl x HR.out ?_) | (refine wpList_is rfl _ _ (exec_buildPtZ rfl) ?_) | (refine wpList_is rfl _ _ ((exec_eqPts _ _ _ x pZ rfl rfl rfl).trans (by rw [Z2.out])) ?_) | fail)
    go_ret
    exact ⟨by rw [HM.out]; unfold mayP; rw [Z.out]; rfl, KB.out⟩
  | false =>
    have Z := hid h0
    have Z2 := hid (show eqP x pZ = false from by
      cases hq : eqP x pZ with
      | false => rfl
      | true => rw [zB_is.2 (eqP_is.1 hq)] at h0; cases h0)
    clear h0
    have E : Hid (mayP x = (msB x.c x.l x.n && (decide (0 ≤ x.a) && (decide (x.a < 6000) && (decide (1 ≤ x.k) && (decide (x.k ≤ 64) && decide (x.a + x.k ≤ 6000))))))) := hid (by
      unfold mayP
      rw [Z.out]
      rw [Bool.eq_iff_iff]
      simp only [msB, btw, Bool.false_or, Bool.and_eq_true, decide_eq_true_eq]
      omega)
    cases hs : msB x.c x.l x.n with
    | false =>
      have S := hid hs
      clear hs
      go_enter Try.func150, Try.ntmps150
      go_wp2_with (first | (refine wpList_boxPt rfl _ rfl x rfl ?_) | (refine wpList_loadPt rfl _ rfl w.heap.size 0 rfl x HR.out ?_) | (refine wpList_is rfl _ _ (exec_buildPtZ rfl) ?_) | (refine wpList_is rfl _ _ ((exec_eqPts _ _ _ x pZ rfl rfl rfl).trans (by rw [Z2.out])) ?_) | (refine wpList_isW rfl _ _ (exec_load _ _ _ _ rfl rfl (LS.out _ HR.out)) ?_) | fail)
      refine (rMayStripe_any _ x.c x.l x.n _ S.out).mono ?_
      rintro e w2 ⟨rfl, k2⟩
      have K2 := hid (KB.out.trans k2)
      obtain ⟨c0, c1, c2, c3, c4⟩ := range_at (range_keep HR.out k2 (by simp))
      simp only [Nat.zero_add] at c1 c2 c3 c4
      clear k2 c0 c1 c2
      go_wp2_with fail
      go_ret
      exact ⟨ret_boolP (by rw [HM.out, E.out, S.out]; simp), K2.out⟩
    | true =>
      have S := hid hs
      clear hs
      by_cases h0 : 0 ≤ x.a
      · by_cases h1 : x.a < 6000
        · by_cases h2 : 1 ≤ x.k
          · by_cases h3 : x.k ≤ 64
            · by_cases h4 : x.a + x.k ≤ 6000
              · go_enter Try.func150, Try.ntmps150
                go_wp2_with (first | (refine wpList_boxPt rfl _ rfl x rfl ?_) | (refine wpList_loadPt rfl _ rfl w.heap.size 0 rfl x HR.out ?_) | (refine wpList_is rfl _ _ (exec_buildPtZ rfl) ?_) | (refine wpList_is rfl _ _ ((exec_eqPts _ _ _ x pZ rfl rfl rfl).trans (by rw [Z2.out])) ?_) | (refine wpList_isW rfl _ _ (exec_load _ _ _ _ rfl rfl (LS.out _ HR.out)) ?_) | fail)
                refine (rMayStripe_any _ x.c x.l x.n _ S.out).mono ?_
                rintro e w2 ⟨rfl, k2⟩
                have K2 := hid (KB.out.trans k2)
                obtain ⟨c0, c1, c2, c3, c4⟩ := range_at (range_keep HR.out k2 (by simp))
                simp only [Nat.zero_add] at c1 c2 c3 c4
                clear k2 c0 c1 c2
                go_wp2_with fail
                go_ret
                exact ⟨ret_boolP (by rw [HM.out, E.out, S.out]; simp [h0, h1, h2, h3, h4] <;> omega), K2.out⟩
              · go_enter Try.func150, Try.ntmps150
                go_wp2_with (first | (refine wpList_boxPt rfl _ rfl x rfl ?_) | (refine wpList_loadPt rfl _ rfl w.heap.size 0 rfl x HR.out ?_) | (refine wpList_is rfl _ _ (exec_buildPtZ rfl) ?_) | (refine wpList_is rfl _ _ ((exec_eqPts _ _ _ x pZ rfl rfl rfl).trans (by rw [Z2.out])) ?_) | (refine wpList_isW rfl _ _ (exec_load _ _ _ _ rfl rfl (LS.out _ HR.out)) ?_) | fail)
                refine (rMayStripe_any _ x.c x.l x.n _ S.out).mono ?_
                rintro e w2 ⟨rfl, k2⟩
                have K2 := hid (KB.out.trans k2)
                obtain ⟨c0, c1, c2, c3, c4⟩ := range_at (range_keep HR.out k2 (by simp))
                simp only [Nat.zero_add] at c1 c2 c3 c4
                clear k2 c0 c1 c2
                go_wp2_with fail
                go_ret
                exact ⟨ret_boolP (by rw [HM.out, E.out, S.out]; simp [h0, h1, h2, h3, h4] <;> omega), K2.out⟩
            · go_enter Try.func150, Try.ntmps150
              go_wp2_with (first | (refine wpList_boxPt rfl _ rfl x rfl ?_) | (refine wpList_loadPt rfl _ rfl w.heap.size 0 rfl x HR.out ?_) | (refine wpList_is rfl _ _ (exec_buildPtZ rfl) ?_) | (refine wpList_is rfl _ _ ((exec_eqPts _ _ _ x pZ rfl rfl rfl).trans (by rw [Z2.out])) ?_) | (refine wpList_isW rfl _ _ (exec_load _ _ _ _ rfl rfl (LS.out _ HR.out)) ?_) | fail)
              refine (rMayStripe_any _ x.c x.l x.n _ S.out).mono ?_
              rintro e w2 ⟨rfl, k2⟩
              have K2 := hid (KB.out.trans k2)
              obtain ⟨c0, c1, c2, c3, c4⟩ := range_at (range_keep HR.out k2 (by simp))
              simp only [Nat.zero_add] at c1 c2 c3 c4
              clear k2 c0 c1 c2
              go_wp2_with fail
              go_ret
              exact ⟨ret_boolP (by rw [HM.out, E.out, S.out]; simp [h0, h1, h2, h3] <;> omega), K2.out⟩
          · go_enter Try.func150, Try.ntmps150
            go_wp2_with (first | (refine wpList_boxPt rfl _ rfl x rfl ?_) | (refine wpList_loadPt rfl _ rfl w.heap.size 0 rfl x HR.out ?_) | (refine wpList_is rfl _ _ (exec_buildPtZ rfl) ?_) | (refine wpList_is rfl _ _ ((exec_eqPts _ _ _ x pZ rfl rfl rfl).trans (by rw [Z2.out])) ?_) | (refine wpList_isW rfl _ _ (exec_load _ _ _ _ rfl rfl (LS.out _ HR.out)) ?_) | fail)
            refine (rMayStripe_any _ x.c x.l x.n _ S.out).mono ?_
            rintro e w2 ⟨rfl, k2⟩
            have K2 := hid (KB.out.trans k2)
            obtain ⟨c0, c1, c2, c3, c4⟩ := range_at (range_keep HR.out k2 (by simp))
            simp only [Nat.zero_add] at c1 c2 c3 c4
            clear k2 c0 c1 c2
            go_wp2_with fail
            go_ret
            exact ⟨ret_boolP (by rw [HM.out, E.out, S.out]; simp [h0, h1, h2] <;> omega), K2.out⟩
        · go_enter Try.func150, Try.ntmps150
          go_wp2_with (first | (refine wpList_boxPt rfl _ rfl x rfl ?_) | (refine wpList_loadPt rfl _ rfl w.heap.size 0 rfl x HR.out ?_) | (refine wpList_is rfl _ _ (exec_buildPtZ rfl) ?_) | (refine wpList_is rfl _ _ ((exec_eqPts _ _ _ x pZ rfl rfl rfl).trans (by rw [Z2.out])) ?_) | (refine wpList_isW rfl _ _ (exec_load _ _ _ _ rfl rfl (LS.out _ HR.out)) ?_) | fail)
          refine (rMayStripe_any _ x.c x.l x.n _ S.out).mono ?_
          rintro e w2 ⟨rfl, k2⟩
          have K2 := hid (KB.out.trans k2)
          obtain ⟨c0, c1, c2, c3, c4⟩ := range_at (range_keep HR.out k2 (by simp))
          simp only [Nat.zero_add] at c1 c2 c3 c4
          clear k2 c0 c1 c2
          go_wp2_with fail
          go_ret
          exact ⟨ret_boolP (by rw [HM.out, E.out, S.out]; simp [h0, h1] <;> omega), K2.out⟩
      · go_enter Try.func150, Try.ntmps150
        go_wp2_with (first | (refine wpList_boxPt rfl _ rfl x rfl ?_) | (refine wpList_loadPt rfl _ rfl w.heap.size 0 rfl x HR.out ?_) | (refine wpList_is rfl _ _ (exec_buildPtZ rfl) ?_) | (refine wpList_is rfl _ _ ((exec_eqPts _ _ _ x pZ rfl rfl rfl).trans (by rw [Z2.out])) ?_) | (refine wpList_isW rfl _ _ (exec_load _ _ _ _ rfl rfl (LS.out _ HR.out)) ?_) | fail)
        refine (rMayStripe_any _ x.c x.l x.n _ S.out).mono ?_
        rintro e w2 ⟨rfl, k2⟩
        have K2 := hid (KB.out.trans k2)
        obtain ⟨c0, c1, c2, c3, c4⟩ := range_at (range_keep HR.out k2 (by simp))
        simp only [Nat.zero_add] at c1 c2 c3 c4
        clear k2 c0 c1 c2
        go_wp2_with fail
        go_ret
        exact ⟨ret_boolP (by rw [HM.out, E.out, S.out]; simp [h0] <;> omega), K2.out⟩
end Go.Proofs.Ytoglcohdanpciaa
