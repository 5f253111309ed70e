/- blocks: the reference's change, a kind. -/
import Derived.Test.YtdfhoanilbfkiaaBkX0
namespace Go.Proofs.Ytdfhoanilbfkiaa
open Go.RowKit Go.Shelf
set_option maxRecDepth 100000
set_option linter.unusedSimpArgs false

set_option maxHeartbeats 12800000 in
theorem rChangeMove_any {w : World} {q : Nat} {F : List Nat} {s : Bk} (h : RkAt w q F s) (hg : GoodB s) (x : Dl) (h1 : ¬ x.d = 1) (h2 : ¬ x.d = 2) (h3 : x.d = 3) : Calls Try.prog 37 #[.pointer (some ⟨q, 0, none⟩), dlV x] w (RchPost w q F s x) := by
  have H := hid h
  have HG := hid hg
  have ka : Keeps [] w (w.alloc (.cells x.cells.toArray 34)) := (Keeps.refl [] w).alloc _
  have HA := hid (h.later ka)
  have RA := hid (range_new w x.cells 34)
  have DA := hid (dl_range RA.out)
  have KA := hid ka
  have HSZ := hid (show w.heap.size < (w.alloc (.cells x.cells.toArray 34)).heap.size by simp)
  have HFW := hid h.lt
  have d0 := DA.out.c0
  have d2 := DA.out.c2
  have d3 := DA.out.c3
  simp only [Nat.zero_add] at d2 d3
  obtain ⟨r, hr⟩ : ∃ r, r = mayD s x := ⟨_, rfl⟩
  unfold mayD at hr
  have HR := hid hr
  have HRE := hid (show r = mayD s x by rw [hr]; rfl)
  clear h hg ka hr
  have e1 : (x.d == 1) = false := by simpa using h1
  have e2 : (x.d == 2) = false := by simpa using h2
  have e3 : (x.d == 3) = true := by simpa using h3
  have HD := hid (fun (hm : mayD s x = true) => show doD s x = ⟨s.sz, s.L.set x.b.toNat x.t⟩ by unfold doD; rw [if_neg h1, if_neg h2])
  rw [if_neg h1, if_neg h2, if_pos h3] at HR
  clear h1 h2 h3
  obtain ⟨y, hy⟩ : ∃ y, y = atB s.L x.b := ⟨_, rfl⟩
  rw [← hy] at HR
  have HY := hid hy
  clear hy
  cases hz : zB y with
  | true =>
    have Z2 := hid (show eqP y pZ = true from eqP_is.2 (zB_is.1 hz))
    have HM := hid (show mayD s x = false by
      rw [← HRE.out, HR.out]
      cases hzo : zB x.o with
      | true => simp
      | false =>
        have : eqP y x.o = false := by
          cases hq : eqP y x.o with
          | false => rfl
          | true => rw [eqP_is.1 hq] at hz; rw [hz] at hzo; cases hzo
        rw [this]; simp)
    clear hz
    go_enter Try.func37, Try.ntmps37
    go_wp2_with (first | (refine wpList_is rfl _ _ (exec_box 34 _ x.cells.toArray rfl rfl) ?_) | fail)
    refine (rAt_any11 HA.out x.b).mono ?_
    rintro e w2 ⟨rfl, k2⟩
    rw [← HY.out]
    have KY : Keeps [] w2 (w2.alloc (.cells y.cells.toArray 28)) := (Keeps.refl [] w2).alloc _
    have RY := hid (range_new w2 y.cells 28)
    have DY := hid (DA.out.keep (k2.trans KY) (by simp))
    have K3 := hid (KA.out.trans (k2.trans KY))
    have H3 := hid (HA.out.later (k2.trans KY))
    have HS3 := hid (show w.heap.size < (w2.alloc (.cells y.cells.toArray 28)).heap.size by have := HSZ.out; have := (k2.trans KY).size; omega)
    clear k2 KY
    go_wp2_with (first | go_big_skip | (refine wpList_is rfl _ _ (exec_alloc 28 pZ.cells.toArray iPtr2 rfl) ?_) | (refine wpList_noval rfl _ (exec_storeNew 28 _ _ rfl w2 pZ.cells.toArray y.cells.toArray rfl rfl rfl iPtr2 rfl (cells_one _)) ?_) | (refine wpList_isW rfl _ _ (exec_load _ _ _ _ rfl rfl (loadPt_run _ w2.heap.size 0 y RY.out)) ?_) | (refine wpList_isW rfl _ _ (exec_buildPtZ rfl) ?_) | (refine wpList_isW rfl (.bool true) _ ((exec_eqPts _ _ _ y pZ rfl rfl rfl).trans (by rw [Z2.out])) ?_) | (refine wpList_isW rfl _ _ (exec_load _ _ _ _ rfl rfl (loadPt_run _ w.heap.size (0 + 9) x.o DY.out.o)) ?_) | fail)
    go_ret
    exact rch_no H.out HM.out K3.out
  | false =>
    have Z2 := hid (show eqP y pZ = false from by
      cases hq : eqP y pZ with
      | false => rfl
      | true => rw [zB_is.2 (eqP_is.1 hq)] at hz; cases hz)
    have ZY := hid hz
    clear hz
    cases ho : eqP y x.o with
    | false =>
      have EO := hid ho
      have HM := hid (show mayD s x = false by rw [← HRE.out, HR.out, ho]; simp)
      clear ho
      go_enter Try.func37, Try.ntmps37
      go_wp2_with (first | (refine wpList_is rfl _ _ (exec_box 34 _ x.cells.toArray rfl rfl) ?_) | fail)
      refine (rAt_any11 HA.out x.b).mono ?_
      rintro e w2 ⟨rfl, k2⟩
      rw [← HY.out]
      have KY : Keeps [] w2 (w2.alloc (.cells y.cells.toArray 28)) := (Keeps.refl [] w2).alloc _
      have RY := hid (range_new w2 y.cells 28)
      have DY := hid (DA.out.keep (k2.trans KY) (by simp))
      have K3 := hid (KA.out.trans (k2.trans KY))
      have H3 := hid (HA.out.later (k2.trans KY))
      have HS3 := hid (show w.heap.size < (w2.alloc (.cells y.cells.toArray 28)).heap.size by have := HSZ.out; have := (k2.trans KY).size; omega)
      clear k2 KY
      go_wp2_with (first | go_big_skip | (refine wpList_is rfl _ _ (exec_alloc 28 pZ.cells.toArray iPtr2 rfl) ?_) | (refine wpList_noval rfl _ (exec_storeNew 28 _ _ rfl w2 pZ.cells.toArray y.cells.toArray rfl rfl rfl iPtr2 rfl (cells_one _)) ?_) | (refine wpList_isW rfl _ _ (exec_load _ _ _ _ rfl rfl (loadPt_run _ w2.heap.size 0 y RY.out)) ?_) | (refine wpList_isW rfl _ _ (exec_buildPtZ rfl) ?_) | (refine wpList_isW rfl (.bool false) _ ((exec_eqPts _ _ _ y pZ rfl rfl rfl).trans (by rw [Z2.out])) ?_) | (refine wpList_isW rfl _ _ (exec_load _ _ _ _ rfl rfl (loadPt_run _ w.heap.size (0 + 9) x.o DY.out.o)) ?_) | (refine wpList_isW rfl (.bool true) _ ((exec_neqPts _ _ _ y x.o rfl rfl rfl).trans (by rw [EO.out]; rfl)) ?_) | fail)
      go_ret
      exact rch_no H.out HM.out K3.out
    | true =>
      have EO := hid ho
      have ZO := hid (show zB x.o = false by rw [← eqP_is.1 ho]; exact ZY.out)
      clear ho
      cases hmt : mayP x.t with
      | false =>
        have MT := hid hmt
        have HM := hid (show mayD s x = false by rw [← HRE.out, HR.out, hmt]; simp)
        clear hmt
        go_enter Try.func37, Try.ntmps37
        go_wp2_with (first | (refine wpList_is rfl _ _ (exec_box 34 _ x.cells.toArray rfl rfl) ?_) | fail)
        refine (rAt_any11 HA.out x.b).mono ?_
        rintro e w2 ⟨rfl, k2⟩
        rw [← HY.out]
        have KY : Keeps [] w2 (w2.alloc (.cells y.cells.toArray 28)) := (Keeps.refl [] w2).alloc _
        have RY := hid (range_new w2 y.cells 28)
        have DY := hid (DA.out.keep (k2.trans KY) (by simp))
        have K3 := hid (KA.out.trans (k2.trans KY))
        have H3 := hid (HA.out.later (k2.trans KY))
        have HS3 := hid (show w.heap.size < (w2.alloc (.cells y.cells.toArray 28)).heap.size by have := HSZ.out; have := (k2.trans KY).size; omega)
        clear k2 KY
        go_wp2_with (first | go_big_skip | (refine wpList_is rfl _ _ (exec_alloc 28 pZ.cells.toArray iPtr2 rfl) ?_) | (refine wpList_noval rfl _ (exec_storeNew 28 _ _ rfl w2 pZ.cells.toArray y.cells.toArray rfl rfl rfl iPtr2 rfl (cells_one _)) ?_) | (refine wpList_isW rfl _ _ (exec_load _ _ _ _ rfl rfl (loadPt_run _ w2.heap.size 0 y RY.out)) ?_) | (refine wpList_isW rfl _ _ (exec_buildPtZ rfl) ?_) | (refine wpList_isW rfl (.bool false) _ ((exec_eqPts _ _ _ y pZ rfl rfl rfl).trans (by rw [Z2.out])) ?_) | (refine wpList_isW rfl _ _ (exec_load _ _ _ _ rfl rfl (loadPt_run _ w.heap.size (0 + 9) x.o DY.out.o)) ?_) | (refine wpList_isW rfl (.bool false) _ ((exec_neqPts _ _ _ y x.o rfl rfl rfl).trans (by rw [EO.out]; rfl)) ?_) | (refine wpList_isW rfl _ _ (exec_load _ _ _ _ rfl rfl (loadPt_run _ w.heap.size (0 + 4) x.t DY.out.t)) ?_) | fail)
        refine (rMayPtr_any _ x.t).mono ?_
        rintro e w4 ⟨rfl, k4⟩
        have K4 := hid (K3.out.trans k4)
        clear k4
        rw [MT.out]
        go_wp2_with fail
        go_ret
        exact rch_no H.out HM.out K4.out
      | true =>
        have MT := hid hmt
        have HMK := hid (show mayD s x = (x.t.k == x.o.k) by rw [← HRE.out, HR.out, hmt, ZO.out, EO.out]; rfl)
        have EYO := hid (show y.k = x.o.k by rw [eqP_is.1 EO.out])
        clear hmt
        cases hkk : (x.t.k == x.o.k) with
        | false =>
          have HKK := hid hkk
          have kf : (x.t.k != y.k) = true := by rw [EYO.out]; unfold bne; rw [hkk]; rfl
          clear hkk
          go_enter Try.func37, Try.ntmps37
          go_wp2_with (first | (refine wpList_is rfl _ _ (exec_box 34 _ x.cells.toArray rfl rfl) ?_) | fail)
          refine (rAt_any11 HA.out x.b).mono ?_
          rintro e w2 ⟨rfl, k2⟩
          rw [← HY.out]
          have KY : Keeps [] w2 (w2.alloc (.cells y.cells.toArray 28)) := (Keeps.refl [] w2).alloc _
          have RY := hid (range_new w2 y.cells 28)
          have DY := hid (DA.out.keep (k2.trans KY) (by simp))
          have K3 := hid (KA.out.trans (k2.trans KY))
          have H3 := hid (HA.out.later (k2.trans KY))
          have HS3 := hid (show w.heap.size < (w2.alloc (.cells y.cells.toArray 28)).heap.size by have := HSZ.out; have := (k2.trans KY).size; omega)
          clear k2 KY
          go_wp2_with (first | go_big_skip | (refine wpList_is rfl _ _ (exec_alloc 28 pZ.cells.toArray iPtr2 rfl) ?_) | (refine wpList_noval rfl _ (exec_storeNew 28 _ _ rfl w2 pZ.cells.toArray y.cells.toArray rfl rfl rfl iPtr2 rfl (cells_one _)) ?_) | (refine wpList_isW rfl _ _ (exec_load _ _ _ _ rfl rfl (loadPt_run _ w2.heap.size 0 y RY.out)) ?_) | (refine wpList_isW rfl _ _ (exec_buildPtZ rfl) ?_) | (refine wpList_isW rfl (.bool false) _ ((exec_eqPts _ _ _ y pZ rfl rfl rfl).trans (by rw [Z2.out])) ?_) | (refine wpList_isW rfl _ _ (exec_load _ _ _ _ rfl rfl (loadPt_run _ w.heap.size (0 + 9) x.o DY.out.o)) ?_) | (refine wpList_isW rfl (.bool false) _ ((exec_neqPts _ _ _ y x.o rfl rfl rfl).trans (by rw [EO.out]; rfl)) ?_) | (refine wpList_isW rfl _ _ (exec_load _ _ _ _ rfl rfl (loadPt_run _ w.heap.size (0 + 4) x.t DY.out.t)) ?_) | fail)
          refine (rMayPtr_any _ x.t).mono ?_
          rintro e w4 ⟨rfl, k4⟩
          have K4 := hid (K3.out.trans k4)
          have R4 := hid (H3.out.later k4)
          have D4 := hid (DY.out.keep k4 (by simp))
          have HS4 := hid (show w.heap.size < w4.heap.size by have := HS3.out; have := k4.size; omega)
          have dk := (range_at D4.out.t).2.2.2.2
          have yk := (range_at (range_keep RY.out k4 (by simp))).2.2.2.2
          simp only [Nat.zero_add, Nat.reduceAdd] at dk yk
          clear k4
          rw [MT.out]
          go_wp2_with fail
          go_ret
          exact rch_no H.out (by rw [HMK.out, HKK.out]) K4.out
        | true =>
          have HKK := hid hkk
          have kf : (x.t.k != y.k) = false := by rw [EYO.out]; unfold bne; rw [hkk]; rfl
          clear hkk
          have hat : atB s.L x.b ≠ pZ := fun e => by rw [← HY.out] at e; have := ZY.out; rw [e] at this; exact absurd this (by decide)
          obtain ⟨b0, b1⟩ := atB_mem hat
          obtain ⟨k, hk⟩ : ∃ k : Nat, x.b = (k : Int) := ⟨x.b.toNat, by omega⟩
          have HKB := hid (show x.b.toNat = k by omega)
          have HKL := hid (show k < s.L.length by omega)
          have hk64 : k < 64 := by have := HG.out.few; omega
          have HK := hid hk
          clear hat b0 b1 hk
          go_enter Try.func37, Try.ntmps37
          go_wp2_with (first | (refine wpList_is rfl _ _ (exec_box 34 _ x.cells.toArray rfl rfl) ?_) | fail)
          refine (rAt_any11 HA.out x.b).mono ?_
          rintro e w2 ⟨rfl, k2⟩
          rw [← HY.out]
          have KY : Keeps [] w2 (w2.alloc (.cells y.cells.toArray 28)) := (Keeps.refl [] w2).alloc _
          have RY := hid (range_new w2 y.cells 28)
          have DY := hid (DA.out.keep (k2.trans KY) (by simp))
          have K3 := hid (KA.out.trans (k2.trans KY))
          have H3 := hid (HA.out.later (k2.trans KY))
          have HS3 := hid (show w.heap.size < (w2.alloc (.cells y.cells.toArray 28)).heap.size by have := HSZ.out; have := (k2.trans KY).size; omega)
          clear k2 KY
          go_wp2_with (first | go_big_skip | (refine wpList_is rfl _ _ (exec_alloc 28 pZ.cells.toArray iPtr2 rfl) ?_) | (refine wpList_noval rfl _ (exec_storeNew 28 _ _ rfl w2 pZ.cells.toArray y.cells.toArray rfl rfl rfl iPtr2 rfl (cells_one _)) ?_) | (refine wpList_isW rfl _ _ (exec_load _ _ _ _ rfl rfl (loadPt_run _ w2.heap.size 0 y RY.out)) ?_) | (refine wpList_isW rfl _ _ (exec_buildPtZ rfl) ?_) | (refine wpList_isW rfl (.bool false) _ ((exec_eqPts _ _ _ y pZ rfl rfl rfl).trans (by rw [Z2.out])) ?_) | (refine wpList_isW rfl _ _ (exec_load _ _ _ _ rfl rfl (loadPt_run _ w.heap.size (0 + 9) x.o DY.out.o)) ?_) | (refine wpList_isW rfl (.bool false) _ ((exec_neqPts _ _ _ y x.o rfl rfl rfl).trans (by rw [EO.out]; rfl)) ?_) | (refine wpList_isW rfl _ _ (exec_load _ _ _ _ rfl rfl (loadPt_run _ w.heap.size (0 + 4) x.t DY.out.t)) ?_) | fail)
          refine (rMayPtr_any _ x.t).mono ?_
          rintro e w4 ⟨rfl, k4⟩
          have K4 := hid (K3.out.trans k4)
          have R4 := hid (H3.out.later k4)
          have D4 := hid (DY.out.keep k4 (by simp))
          have HS4 := hid (show w.heap.size < w4.heap.size by have := HS3.out; have := k4.size; omega)
          have dk := (range_at D4.out.t).2.2.2.2
          have yk := (range_at (range_keep RY.out k4 (by simp))).2.2.2.2
          simp only [Nat.zero_add, Nat.reduceAdd] at dk yk
          clear k4
          rw [MT.out]
          go_wp2_with fail
          obtain ⟨g, cap, cur, hb4, hgb, hfit, hgF, hgq, _⟩ := rk_point (w' := w4) R4.out k HKL.out x.t
          obtain ⟨c0, c1, f0, f1⟩ := two_cells hb4
          have hkn : (k : Int) < (s.L.length : Int) := by have := HKL.out; omega
          clear dk yk kf
          refine wp_region_any (by kernel_rfl) (wpAny_of_late (late := [9]) (S := KpS [] w4.heap.size w4.drew) _ _ _ _ ?_)
          change wpAnyT _ _ _ _ _ _ _ _ _ w4.drew
          have cQ : ∀ W1, KpS [] w4.heap.size w4.drew W1 → W1.cell? ⟨q, 1, none⟩ = some (.slice (some ⟨g, 0, none⟩) s.L.length cap) := fun W1 h => h.cell (by rw [World.cell?_drew]; exact c1) (lt_of_block hb4) (by simp)
          have cD : ∀ W1, KpS [] w4.heap.size w4.drew W1 → DlAt W1 w.heap.size 0 x := fun W1 h => (D4.out.keep ((Keeps.refl [] w4).drew) (by simp)).kp h HS4.out (by simp)
          refine late_take (i := 0) (v := .pointer (some ⟨q, 0, none⟩)) rfl (by kernel_rfl) (by kernel_rfl) (by kernel_rfl) (by kernel_rfl) (by kernel_rfl) (fun _ _ _ h => h) rfl (fun W1 hW1 => rfl) (KpS.refl _ _ _) ?_
          simp only [Act.put, List.setIfInBounds_toArray, List.set_cons_zero, List.set_cons_succ]
          refine late_take (i := 1) (v := .pointer (some ⟨q, 0, none⟩)) rfl (by kernel_rfl) (by kernel_rfl) (by kernel_rfl) (by kernel_rfl) (by kernel_rfl) (fun _ _ _ h => h) rfl (fun W1 hW1 => by go_simp) (KpS.refl _ _ _) ?_
          simp only [Act.put, List.setIfInBounds_toArray, List.set_cons_zero, List.set_cons_succ]
          refine late_take (i := 2) (v := .pointer (some ⟨q, 1, none⟩)) rfl (by kernel_rfl) (by kernel_rfl) (by kernel_rfl) (by kernel_rfl) (by kernel_rfl) (fun _ _ _ h => h) rfl (fun W1 hW1 => by go_simp) (KpS.refl _ _ _) ?_
          simp only [Act.put, List.setIfInBounds_toArray, List.set_cons_zero, List.set_cons_succ]
          refine late_take (i := 3) (v := .slice (some ⟨g, 0, none⟩) s.L.length cap) rfl (by kernel_rfl) (by kernel_rfl) (by kernel_rfl) (by kernel_rfl) (by kernel_rfl) (fun _ _ _ h => h) rfl (fun W1 hW1 => exec_load _ _ _ _ rfl rfl (run_loadCell W1 _ _ _ (cQ W1 hW1) (agg_no _ (by kernel_rfl)))) (KpS.refl _ _ _) ?_
          simp only [Act.put, List.setIfInBounds_toArray, List.set_cons_zero, List.set_cons_succ]
          refine late_take (i := 4) (v := .pointer (some ⟨w.heap.size, 2, none⟩)) rfl (by kernel_rfl) (by kernel_rfl) (by kernel_rfl) (by kernel_rfl) (by kernel_rfl) (fun _ _ _ h => h) rfl (fun W1 hW1 => by go_simp) (KpS.refl _ _ _) ?_
          simp only [Act.put, List.setIfInBounds_toArray, List.set_cons_zero, List.set_cons_succ]
          refine late_take (i := 5) (v := .int .i64 (k : Int)) rfl (by kernel_rfl) (by kernel_rfl) (by kernel_rfl) (by kernel_rfl) (by kernel_rfl) (fun _ _ _ h => h) rfl (fun W1 hW1 => exec_load _ _ _ _ rfl rfl (run_loadCell W1 _ _ _ (by have := (cD W1 hW1).c2; rw [HK.out] at this; simpa using this) (agg_no _ (by kernel_rfl)))) (KpS.refl _ _ _) ?_
          simp only [Act.put, List.setIfInBounds_toArray, List.set_cons_zero, List.set_cons_succ]
          refine late_take (i := 6) (v := .pointer (some ⟨w.heap.size, 4, none⟩)) rfl (by kernel_rfl) (by kernel_rfl) (by kernel_rfl) (by kernel_rfl) (by kernel_rfl) (fun _ _ _ h => h) rfl (fun W1 hW1 => by go_simp) (KpS.refl _ _ _) ?_
          simp only [Act.put, List.setIfInBounds_toArray, List.set_cons_zero, List.set_cons_succ]
          refine late_take (i := 7) (v := ptV x.t) rfl (by kernel_rfl) (by kernel_rfl) (by kernel_rfl) (by kernel_rfl) (by kernel_rfl) (fun _ _ _ h => h) rfl (fun W1 hW1 => exec_load _ _ _ _ rfl rfl (loadPt_run W1 w.heap.size 4 x.t (by have := (cD W1 hW1).t; simpa using this))) (KpS.refl _ _ _) ?_
          simp only [Act.put, List.setIfInBounds_toArray, List.set_cons_zero, List.set_cons_succ]
          refine late_take (i := 8) (v := .pointer (some ⟨g, k * 5, none⟩)) rfl (by kernel_rfl) (by kernel_rfl) (by kernel_rfl) (by kernel_rfl) (by kernel_rfl) (fun _ _ _ h => h) rfl (fun W1 hW1 => by go_simp) (KpS.refl _ _ _) ?_
          simp only [Act.put, List.setIfInBounds_toArray, List.set_cons_zero, List.set_cons_succ]
          have hbD : w4.drew.heap[g]? = some (.cells cur 28 (0, 0)) := hgb
          obtain ⟨s1, s2⟩ := setRow_keepsP (cs := (cur.toList.take (k * 5) ++ x.t.cells ++ cur.toList.drop (k * 5 + 5)).toArray) hbD
          refine late_do (i := 9) (by kernel_rfl) rfl rfl (wp_stored (exec_storePtAt _ _ rfl g (k * 5) rfl cur hbD hfit x.t rfl) ⟨Or.inl rfl, ?_⟩)
          simp only [Act.put]
          refine wpAnyT_done (by kernel_rfl) ?_ _
          obtain ⟨g', cap', cur', hb4', hgb', hfit', hgF', hgq', hset⟩ := rk_point (w' := w4.drew.setRow g (cur.toList.take (k * 5) ++ x.t.cells ++ cur.toList.drop (k * 5 + 5)).toArray) R4.out k HKL.out x.t
          rw [hb4] at hb4'
          injection hb4' with e
          injection e with e _ _
          have e' := congrArg (fun z : Array Value => z[1]?) e
          simp at e'
          obtain ⟨rfl, _⟩ := e'
          rw [hgb] at hgb'
          injection hgb' with e
          injection e with e _ _
          subst e
          have R5 := hid (hset s1 (((Keeps.refl [g] w4).drew).trans s2))
          have K5 := hid ((K4.out.drew.mono (S' := F) (by simp)).trans' s2 (fun i hi hm => by
            simp at hm
            subst hm
            exact hgF))
          clear cQ cD hbD s1 s2 hset hb4 hgb hfit hgF hgq c0 c1 f0 f1
          generalize w4.drew.setRow g (cur.toList.take (k * 5) ++ x.t.cells ++ cur.toList.drop (k * 5 + 5)).toArray = w5 at R5 K5 ⊢
          go_wp2_with fail
          go_ret
          refine rch_yes (by rw [HMK.out, HKK.out]) (F' := F) ?_ K5.out (fun b hb => Or.inl hb)
          rw [HD.out (by rw [HMK.out, HKK.out]), HKB.out]
          exact R5.out
end Go.Proofs.Ytdfhoanilbfkiaa
