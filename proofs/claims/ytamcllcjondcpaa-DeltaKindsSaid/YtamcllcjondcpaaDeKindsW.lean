/- delta: the walk of the law DeltaKinds. -/
import Derived.Test.YtamcllcjondcpaaDeJb
namespace Go.Proofs.Ytamcllcjondcpaa
open Go.RowKit Go.Shelf
set_option maxRecDepth 100000
set_option linter.unusedSimpArgs false

theorem one_enc {x : Dl} (h : mayL x = true) : encL [x] = (allB [x], 0) := by
  rw [(encL_is (ds := [x]) (by simp)).1, if_neg (by rw [badL_of (by simpa using h)]; simp)]
theorem one_same {x y : Dl} (hx : mayL x = true) (hy : mayL y = true) : decide (allB [x] = allB [y]) = eqD x y := by
  rw [Bool.eq_iff_iff, decide_eq_true_iff, eqD_is]
  constructor
  · intro h
    unfold allB flatD at h
    simp only [List.flatMap_cons, List.flatMap_nil, List.append_nil, List.length_cons, List.length_nil] at h
    exact bytesD_inj hx hy (List.append_cancel_left h)
  · rintro rfl; rfl
theorem allB_one (x : Dl) : (allB [x]).length ≤ 35184372088832 := by
  rw [allB_len]
  have := (flatD_len [x]).2
  simp at this
  omega
theorem eqP_self (x : Pt) : eqP x x = true := eqP_is.2 rfl

set_option maxHeartbeats 12800000 in
theorem dKindsN_any (w : World) (x y : Dl) (hm : mayL x = false) : Calls Try.prog 7 #[dlV x, dlV y] w fun e w' => e = .returned (.bool true) ∧ Keeps [] w w' := by
  have ka : Keeps [] w (w.alloc (.cells x.cells.toArray 49)) := (Keeps.refl [] w).alloc _
  have kb : Keeps [] (w.alloc (.cells x.cells.toArray 49)) ((w.alloc (.cells x.cells.toArray 49)).alloc (.cells y.cells.toArray 49)) := (Keeps.refl [] _).alloc _
  have RX := hid (range_keep (range_new w x.cells 49) kb (by simp))
  have ry := range_new (w.alloc (.cells x.cells.toArray 49)) y.cells 49
  rw [World.size_alloc] at ry
  have RY := hid ry
  have KB := hid (ka.trans kb)
  clear ka kb ry
  have MX := hid hm
  clear hm
  go_enter Try.func7, Try.ntmps7
  go_wp2_with (first | (refine wpList_is rfl _ _ (exec_box 49 _ x.cells.toArray rfl rfl) ?_) | (refine wpList_is rfl _ _ (exec_box 49 _ y.cells.toArray rfl rfl) ?_) | fail)
  refine (dAwake_any _).mono ?_
  rintro e w1 ⟨rfl, k1⟩
  have RX1 := hid (range_keep RX.out k1 (by simp))
  have RY1 := hid (range_keep RY.out k1 (by simp))
  have K1 := hid (KB.out.trans k1)
  have kz : Keeps [] w1 (w1.alloc (.cells pZ.cells.toArray 47)) := (Keeps.refl [] w1).alloc _
  have RZ := hid (range_new w1 pZ.cells 47)
  have RX2 := hid (range_keep RX1.out kz (by simp))
  have RY2 := hid (range_keep RY1.out kz (by simp))
  have K2 := hid (K1.out.trans kz)
  clear k1 kz
  go_wp2_with (first | (refine wpList_is rfl _ _ (exec_alloc 47 pZ.cells.toArray iPtr2 rfl) ?_) | (refine wpList_is rfl _ _ (exec_buildPtZ rfl) ?_) | (refine wpList_noval rfl _ (exec_storeNew 47 _ _ rfl w1 pZ.cells.toArray pZ.cells.toArray rfl rfl rfl iPtr2 rfl (cells_one pZ)) ?_) | (refine wpList_isW rfl _ _ (exec_load _ _ _ _ rfl rfl (loadDl_run _ w.heap.size 0 x RX2.out)) ?_) | fail)
  refine (dMay_any _ x).mono ?_
  rintro e w3 ⟨rfl, k3⟩
  rw [MX.out]
  have RX3 := hid (range_keep RX2.out k3 (by simp))
  have RY3 := hid (range_keep RY2.out k3 (by simp))
  have RZ3 := hid (range_keep RZ.out k3 (by simp))
  have K3 := hid (K2.out.trans k3)
  clear k3
  go_wp2_with (first | go_big_skip | (refine wpList_isW rfl _ _ (exec_load _ _ _ _ rfl rfl (loadDl_run _ w.heap.size 0 x RX3.out)) ?_) | fail)
  refine (dMay_any _ x).mono ?_
  rintro e w4 ⟨rfl, k4⟩
  rw [MX.out]
  have K4 := hid (K3.out.trans k4)
  clear k4
  go_wp2_with (first | go_big_skip | fail)
  go_ret
  exact ⟨rfl, K4.out⟩

set_option maxHeartbeats 12800000 in
theorem dKinds1_anyN (w : World) (x y : Dl) (hm : mayL x = true) (hd : x.d = 1) (ho : x.o = pZ) (hn : mayL y = false) : Calls Try.prog 7 #[dlV x, dlV y] w fun e w' => e = .returned (.bool true) ∧ Keeps [] w w' := by
  have ka : Keeps [] w (w.alloc (.cells x.cells.toArray 49)) := (Keeps.refl [] w).alloc _
  have kb : Keeps [] (w.alloc (.cells x.cells.toArray 49)) ((w.alloc (.cells x.cells.toArray 49)).alloc (.cells y.cells.toArray 49)) := (Keeps.refl [] _).alloc _
  have RX := hid (range_keep (range_new w x.cells 49) kb (by simp))
  have ry := range_new (w.alloc (.cells x.cells.toArray 49)) y.cells 49
  rw [World.size_alloc] at ry
  have RY := hid ry
  have KB := hid (ka.trans kb)
  clear ka kb ry
  have MX := hid hm
  have MY := hid hn
  have DX := hid hd
  have EO : Hid (eqP x.o pZ = true) := hid (by rw [ho]; rfl)
  clear hm hn hd ho
  go_enter Try.func7, Try.ntmps7
  go_wp2_with (first | (refine wpList_is rfl _ _ (exec_box 49 _ x.cells.toArray rfl rfl) ?_) | (refine wpList_is rfl _ _ (exec_box 49 _ y.cells.toArray rfl rfl) ?_) | fail)
  refine (dAwake_any _).mono ?_
  rintro e w1 ⟨rfl, k1⟩
  have RX1 := hid (range_keep RX.out k1 (by simp))
  have RY1 := hid (range_keep RY.out k1 (by simp))
  have K1 := hid (KB.out.trans k1)
  have kz : Keeps [] w1 (w1.alloc (.cells pZ.cells.toArray 47)) := (Keeps.refl [] w1).alloc _
  have RZ := hid (range_new w1 pZ.cells 47)
  have RX2 := hid (range_keep RX1.out kz (by simp))
  have RY2 := hid (range_keep RY1.out kz (by simp))
  have K2 := hid (K1.out.trans kz)
  clear k1 kz
  go_wp2_with (first | (refine wpList_is rfl _ _ (exec_alloc 47 pZ.cells.toArray iPtr2 rfl) ?_) | (refine wpList_is rfl _ _ (exec_buildPtZ rfl) ?_) | (refine wpList_noval rfl _ (exec_storeNew 47 _ _ rfl w1 pZ.cells.toArray pZ.cells.toArray rfl rfl rfl iPtr2 rfl (cells_one pZ)) ?_) | (refine wpList_isW rfl _ _ (exec_load _ _ _ _ rfl rfl (loadDl_run _ w.heap.size 0 x RX2.out)) ?_) | fail)
  refine (dMay_any _ x).mono ?_
  rintro e w3 ⟨rfl, k3⟩
  rw [MX.out]
  have RX3 := hid (range_keep RX2.out k3 (by simp))
  have RY3 := hid (range_keep RY2.out k3 (by simp))
  have RZ3 := hid (range_keep RZ.out k3 (by simp))
  have K3 := hid (K2.out.trans k3)
  clear k3
  have d3 := dl_range RX3.out
  have c0 := d3.c0
  have D3 := hid d3
  rw [DX.out] at c0
  clear d3
  go_wp2_with (first | go_big_skip | (refine wpList_isW rfl _ _ (exec_load _ _ _ _ rfl rfl (loadPt_run _ w.heap.size (0 + 9) x.o D3.out.o)) ?_) | (refine wpList_isW rfl _ _ (exec_load _ _ _ _ rfl rfl (loadPt_run _ w1.heap.size 0 pZ RZ3.out)) ?_) | (refine wpList_isW rfl (.bool false) _ ((exec_neqPts _ _ _ x.o pZ rfl rfl rfl).trans (by rw [EO.out]; rfl)) ?_) | (refine wpList_isW rfl _ _ (exec_load _ _ _ _ rfl rfl (loadDl_run _ w.heap.size 0 x RX3.out)) ?_) | fail)
  clear c0
  refine (dMay_any _ x).mono ?_
  rintro e w4 ⟨rfl, k4⟩
  rw [MX.out]
  have RX4 := hid (range_keep RX3.out k4 (by simp))
  have RY4 := hid (range_keep RY3.out k4 (by simp))
  have K4 := hid (K3.out.trans k4)
  clear k4
  go_wp2_with (first | go_big_skip | (refine wpList_isW rfl _ _ (exec_load _ _ _ _ rfl rfl (loadDl_run _ (w.heap.size + 1) 0 y RY4.out)) ?_) | fail)
  refine (dMay_any _ y).mono ?_
  rintro e w5 ⟨rfl, k5⟩
  rw [MY.out]
  have RX5 := hid (range_keep RX4.out k5 (by simp))
  have RY5 := hid (range_keep RY4.out k5 (by simp))
  have K5 := hid (K4.out.trans k5)
  clear k5
  go_wp2_with (first | go_big_skip | fail)
  go_ret
  exact ⟨rfl, K5.out⟩

set_option maxHeartbeats 12800000 in
theorem dKinds1_any (w : World) (x y : Dl) (hm : mayL x = true) (hd : x.d = 1) (ho : x.o = pZ) (hn : mayL y = true) : Calls Try.prog 7 #[dlV x, dlV y] w fun e w' => e = .returned (.bool true) ∧ Keeps [] w w' := by
  have ka : Keeps [] w (w.alloc (.cells x.cells.toArray 49)) := (Keeps.refl [] w).alloc _
  have kb : Keeps [] (w.alloc (.cells x.cells.toArray 49)) ((w.alloc (.cells x.cells.toArray 49)).alloc (.cells y.cells.toArray 49)) := (Keeps.refl [] _).alloc _
  have RX := hid (range_keep (range_new w x.cells 49) kb (by simp))
  have ry := range_new (w.alloc (.cells x.cells.toArray 49)) y.cells 49
  rw [World.size_alloc] at ry
  have RY := hid ry
  have KB := hid (ka.trans kb)
  clear ka kb ry
  have MX := hid hm
  have MY := hid hn
  have DX := hid hd
  have EO : Hid (eqP x.o pZ = true) := hid (by rw [ho]; rfl)
  clear hm hn hd ho
  go_enter Try.func7, Try.ntmps7
  go_wp2_with (first | (refine wpList_is rfl _ _ (exec_box 49 _ x.cells.toArray rfl rfl) ?_) | (refine wpList_is rfl _ _ (exec_box 49 _ y.cells.toArray rfl rfl) ?_) | fail)
  refine (dAwake_any _).mono ?_
  rintro e w1 ⟨rfl, k1⟩
  have RX1 := hid (range_keep RX.out k1 (by simp))
  have RY1 := hid (range_keep RY.out k1 (by simp))
  have K1 := hid (KB.out.trans k1)
  have kz : Keeps [] w1 (w1.alloc (.cells pZ.cells.toArray 47)) := (Keeps.refl [] w1).alloc _
  have RZ := hid (range_new w1 pZ.cells 47)
  have RX2 := hid (range_keep RX1.out kz (by simp))
  have RY2 := hid (range_keep RY1.out kz (by simp))
  have K2 := hid (K1.out.trans kz)
  clear k1 kz
  go_wp2_with (first | (refine wpList_is rfl _ _ (exec_alloc 47 pZ.cells.toArray iPtr2 rfl) ?_) | (refine wpList_is rfl _ _ (exec_buildPtZ rfl) ?_) | (refine wpList_noval rfl _ (exec_storeNew 47 _ _ rfl w1 pZ.cells.toArray pZ.cells.toArray rfl rfl rfl iPtr2 rfl (cells_one pZ)) ?_) | (refine wpList_isW rfl _ _ (exec_load _ _ _ _ rfl rfl (loadDl_run _ w.heap.size 0 x RX2.out)) ?_) | fail)
  refine (dMay_any _ x).mono ?_
  rintro e w3 ⟨rfl, k3⟩
  rw [MX.out]
  have RX3 := hid (range_keep RX2.out k3 (by simp))
  have RY3 := hid (range_keep RY2.out k3 (by simp))
  have RZ3 := hid (range_keep RZ.out k3 (by simp))
  have K3 := hid (K2.out.trans k3)
  clear k3
  have d3 := dl_range RX3.out
  have c0 := d3.c0
  have D3 := hid d3
  rw [DX.out] at c0
  clear d3
  go_wp2_with (first | go_big_skip | (refine wpList_isW rfl _ _ (exec_load _ _ _ _ rfl rfl (loadPt_run _ w.heap.size (0 + 9) x.o D3.out.o)) ?_) | (refine wpList_isW rfl _ _ (exec_load _ _ _ _ rfl rfl (loadPt_run _ w1.heap.size 0 pZ RZ3.out)) ?_) | (refine wpList_isW rfl (.bool false) _ ((exec_neqPts _ _ _ x.o pZ rfl rfl rfl).trans (by rw [EO.out]; rfl)) ?_) | (refine wpList_isW rfl _ _ (exec_load _ _ _ _ rfl rfl (loadDl_run _ w.heap.size 0 x RX3.out)) ?_) | fail)
  clear c0
  refine (dMay_any _ x).mono ?_
  rintro e w4 ⟨rfl, k4⟩
  rw [MX.out]
  have RX4 := hid (range_keep RX3.out k4 (by simp))
  have RY4 := hid (range_keep RY3.out k4 (by simp))
  have K4 := hid (K3.out.trans k4)
  clear k4
  go_wp2_with (first | go_big_skip | (refine wpList_isW rfl _ _ (exec_load _ _ _ _ rfl rfl (loadDl_run _ (w.heap.size + 1) 0 y RY4.out)) ?_) | fail)
  refine (dMay_any _ y).mono ?_
  rintro e w5 ⟨rfl, k5⟩
  rw [MY.out]
  have RX5 := hid (range_keep RX4.out k5 (by simp))
  have RY5 := hid (range_keep RY4.out k5 (by simp))
  have K5 := hid (K4.out.trans k5)
  clear k5
  have kx : Keeps [] w5 (w5.alloc (.cells x.cells.toArray 49)) := (Keeps.refl [] w5).alloc _
  have HE0 := dEncode_any (w5.alloc (.cells x.cells.toArray 49)) _ [x] (one_dl w5 x)
  rw [one_enc MX.out] at HE0
  have HE := hid HE0
  have KX := hid kx
  clear kx HE0
  go_wp2_with (first | (refine wpList_isW rfl _ _ (exec_load _ _ _ _ rfl rfl (loadDl_run _ w.heap.size 0 x RX5.out)) ?_) | (refine wpList_is rfl _ _ (exec_oneDl _ x rfl rfl) ?_) | fail)
  refine HE.out.mono ?_
  rintro e w6 ⟨a6, c6, rfl, r6, -, k6⟩
  have KK6 := KX.out.trans k6
  have RX6 := hid (range_keep RX5.out KK6 (by simp))
  have RY6 := hid (range_keep RY5.out KK6 (by simp))
  have RA6 := hid r6
  have K6 := hid (K5.out.trans KK6)
  have ky : Keeps [] w6 (w6.alloc (.cells y.cells.toArray 49)) := (Keeps.refl [] w6).alloc _
  have HF0 := dEncode_any (w6.alloc (.cells y.cells.toArray 49)) _ [y] (one_dl w6 y)
  rw [one_enc MY.out] at HF0
  have HF := hid HF0
  have KY := hid ky
  clear ky HF0 r6 k6 KK6 HE
  go_wp2_with (first | (refine wpList_isW rfl _ _ (exec_load _ _ _ _ rfl rfl (loadDl_run _ (w.heap.size + 1) 0 y RY6.out)) ?_) | (refine wpList_is rfl _ _ (exec_oneDl _ y rfl rfl) ?_) | fail)
  refine HF.out.mono ?_
  rintro e w7 ⟨a7, c7, rfl, r7, -, k7⟩
  have KK7 := KY.out.trans k7
  have RX7 := hid (range_keep RX6.out KK7 (by simp))
  have RY7 := hid (range_keep RY6.out KK7 (by simp))
  have RA7 := hid (RA6.out.keep KK7 (by intro _ _ _ _ _; simp))
  have RB7 := hid r7
  have K7 := hid (K6.out.trans KK7)
  have HX7 := hid (show w.heap.size < w7.heap.size from World.block_lt_of_cell? _ _ (RX7.out 0 _ rfl))
  have HY7 := hid (show w.heap.size + 1 < w7.heap.size from World.block_lt_of_cell? _ _ (RY7.out 0 _ rfl))
  clear r7 k7 KK7 HF
  obtain ⟨xs, hxs⟩ : ∃ l, l = allB [x] := ⟨_, rfl⟩
  obtain ⟨ys, hys⟩ : ∃ l, l = allB [y] := ⟨_, rfl⟩
  have SM := hid (show decide (xs = ys) = eqD x y by rw [hxs, hys]; exact one_same MX.out MY.out)
  have LX := hid (show xs.length ≤ 35184372088832 by rw [hxs]; exact allB_one x)
  have LY := hid (show ys.length ≤ 35184372088832 by rw [hys]; exact allB_one y)
  simp only at RA7 RB7
  rw [← hxs] at RA7 ⊢
  rw [← hys] at RB7 ⊢
  clear hxs hys
  obtain ⟨m, hm⟩ : ∃ m, m = eqD x y := ⟨_, rfl⟩
  have HM := hid hm
  rw [← hm] at SM
  clear hm
  go_wp2_with fail
  refine wp_region_any (by kernel_rfl) (wpAny_of_held (S := KpS [] w7.heap.size w7.drew) _ _ _ _ ?_)
  change wpAnyH _ _ _ _ _ _ _ _ w7.drew
  have cX : ∀ W1, KpS [] w7.heap.size w7.drew W1 → W1.rangeAt w.heap.size 0 x.cells := fun W1 h j v hv => h.cell (by rw [World.cell?_drew]; exact RX7.out j v hv) HX7.out (by simp)
  have cY : ∀ W1, KpS [] w7.heap.size w7.drew W1 → W1.rangeAt (w.heap.size + 1) 0 y.cells := fun W1 h j v hv => h.cell (by rw [World.cell?_drew]; exact RY7.out j v hv) HY7.out (by simp)
  refine held_take (i := 0) (v := .int .i64 0) rfl (by kernel_rfl) (by kernel_rfl) (by kernel_rfl) (fun _ _ _ h => h) rfl (fun W1 hW1 => rfl) (KpS.refl _ _ _) ?_
  simp only [Act.put, List.setIfInBounds_toArray, List.set_cons_zero, List.set_cons_succ]
  refine held_take (i := 1) (v := .bool true) rfl (by kernel_rfl) (by kernel_rfl) (by kernel_rfl) (fun _ _ _ h => h) rfl (fun W1 hW1 => by go_simp) (KpS.refl _ _ _) ?_
  simp only [Act.put, List.setIfInBounds_toArray, List.set_cons_zero, List.set_cons_succ]
  refine held_take (i := 2) (v := .bool true) rfl (by kernel_rfl) (by kernel_rfl) (by kernel_rfl) (fun _ _ _ h => h) rfl (fun W1 hW1 => rfl) (KpS.refl _ _ _) ?_
  simp only [Act.put, List.setIfInBounds_toArray, List.set_cons_zero, List.set_cons_succ]
  refine held_takeW (i := 3) (v := .int .i64 0) rfl (by kernel_rfl) (by kernel_rfl) (by kernel_rfl) (fun _ _ _ h => h) rfl (fun W1 hW1 => rfl) (KpS.refl _ _ _) ?_
  simp only [Act.put, List.setIfInBounds_toArray, List.set_cons_zero, List.set_cons_succ]
  refine held_takeW (i := 4) (v := .bool true) rfl (by kernel_rfl) (by kernel_rfl) (by kernel_rfl) (fun _ _ _ h => h) rfl (fun W1 hW1 => by go_simp) (KpS.refl _ _ _) ?_
  simp only [Act.put, List.setIfInBounds_toArray, List.set_cons_zero, List.set_cons_succ]
  refine held_take (i := 5) (v := .bool true) rfl (by kernel_rfl) (by kernel_rfl) (by kernel_rfl) (fun _ _ _ h => h) rfl (fun W1 hW1 => rfl) (KpS.refl _ _ _) ?_
  simp only [Act.put, List.setIfInBounds_toArray, List.set_cons_zero, List.set_cons_succ]
  refine held_take (i := 6) (v := .bool true) rfl (by kernel_rfl) (by kernel_rfl) (by kernel_rfl) (fun _ _ _ h => h) rfl (fun W1 hW1 => rfl) (KpS.refl _ _ _) ?_
  simp only [Act.put, List.setIfInBounds_toArray, List.set_cons_zero, List.set_cons_succ]
  refine held_takeW (i := 7) (v := .slice a6 xs.length c6) rfl (by kernel_rfl) (by kernel_rfl) (by kernel_rfl) (fun _ _ _ h => h) rfl (fun W1 hW1 => rfl) (KpS.refl _ _ _) ?_
  simp only [Act.put, List.setIfInBounds_toArray, List.set_cons_zero, List.set_cons_succ]
  refine held_takeW (i := 8) (v := .slice a7 ys.length c7) rfl (by kernel_rfl) (by kernel_rfl) (by kernel_rfl) (fun _ _ _ h => h) rfl (fun W1 hW1 => rfl) (KpS.refl _ _ _) ?_
  simp only [Act.put, List.setIfInBounds_toArray, List.set_cons_zero, List.set_cons_succ]
  refine held_takeW (i := 10) (v := dlV x) rfl (by kernel_rfl) (by kernel_rfl) (by kernel_rfl) (fun _ _ _ h => h) rfl (fun W1 hW1 => exec_load _ _ _ _ rfl rfl (loadDl_run W1 w.heap.size 0 x (cX W1 hW1))) (KpS.refl _ _ _) ?_
  simp only [Act.put, List.setIfInBounds_toArray, List.set_cons_zero, List.set_cons_succ]
  refine held_takeW (i := 11) (v := dlV y) rfl (by kernel_rfl) (by kernel_rfl) (by kernel_rfl) (fun _ _ _ h => h) rfl (fun W1 hW1 => exec_load _ _ _ _ rfl rfl (loadDl_run W1 (w.heap.size + 1) 0 y (cY W1 hW1))) (KpS.refl _ _ _) ?_
  simp only [Act.put, List.setIfInBounds_toArray, List.set_cons_zero, List.set_cons_succ]
  refine held_takeW (i := 12) (v := .bool m) rfl (by kernel_rfl) (by kernel_rfl) (by kernel_rfl) (fun _ _ _ h => h) rfl (fun W1 hW1 => (exec_eqDl _ _ _ x y rfl rfl rfl).trans (by rw [← HM.out])) (KpS.refl _ _ _) ?_
  simp only [Act.put, List.setIfInBounds_toArray, List.set_cons_zero, List.set_cons_succ]
  refine held_doW (i := 9) (by kernel_rfl) rfl rfl (wp_enter (f := 25) (args := #[.slice a6 xs.length c6, .slice a7 ys.length c7]) (by go_simp) (same_any w7.drew _ _ xs ys (RA7.out.keep (Keeps.refl [] w7).drew (by intro _ _ _ _ _; simp)) (RB7.out.keep (Keeps.refl [] w7).drew (by intro _ _ _ _ _; simp)) LX.out LY.out) ?_)
  rintro e w8 ⟨rfl, n, hw8⟩
  rw [SM.out]
  have k8 : Keeps [] w7.drew w8 := by rw [hw8]; exact (Keeps.refl _ _).drewN n
  have kp8 : KpS [] w7.heap.size w7.drew w8 := (KpS.refl _ _ _).keeps k8 (Nat.le_refl _) (fun i hi _ => hi)
  refine ⟨_, rfl, kp8, ?_⟩
  simp only [Act.put, List.setIfInBounds_toArray, List.set_cons_zero, List.set_cons_succ]
  have K8 := hid (K7.out.drew.trans k8)
  clear hw8 k8
  refine held_takeW (i := 13) (v := .bool true) rfl (by kernel_rfl) (by kernel_rfl) (by kernel_rfl) (fun _ _ _ h => h) rfl (fun W1 hW1 => by cases m <;> go_simp) (kp8) ?_
  simp only [Act.put, List.setIfInBounds_toArray, List.set_cons_zero, List.set_cons_succ]
  refine held_take (i := 14) (v := .bool true) rfl (by kernel_rfl) (by kernel_rfl) (by kernel_rfl) (fun _ _ _ h => h) rfl (fun W1 hW1 => rfl) (kp8) ?_
  simp only [Act.put, List.setIfInBounds_toArray, List.set_cons_zero, List.set_cons_succ]
  refine held_take (i := 15) (v := .bool true) rfl (by kernel_rfl) (by kernel_rfl) (by kernel_rfl) (fun _ _ _ h => h) rfl (fun W1 hW1 => rfl) (kp8) ?_
  simp only [Act.put, List.setIfInBounds_toArray, List.set_cons_zero, List.set_cons_succ]
  refine wpAnyH_done (by kernel_rfl) ?_ _
  clear cX cY kp8
  go_wp2_with fail
  go_ret
  exact ⟨rfl, K8.out⟩

set_option maxHeartbeats 12800000 in
theorem dKinds2_anyN (w : World) (x y : Dl) (hm : mayL x = true) (hd : x.d = 2) (ht : x.t = pZ) (ho : x.o = pZ) (hb : x.b = 0) (hn : mayL y = false) : Calls Try.prog 7 #[dlV x, dlV y] w fun e w' => e = .returned (.bool true) ∧ Keeps [] w w' := by
  have ka : Keeps [] w (w.alloc (.cells x.cells.toArray 49)) := (Keeps.refl [] w).alloc _
  have kb : Keeps [] (w.alloc (.cells x.cells.toArray 49)) ((w.alloc (.cells x.cells.toArray 49)).alloc (.cells y.cells.toArray 49)) := (Keeps.refl [] _).alloc _
  have RX := hid (range_keep (range_new w x.cells 49) kb (by simp))
  have ry := range_new (w.alloc (.cells x.cells.toArray 49)) y.cells 49
  rw [World.size_alloc] at ry
  have RY := hid ry
  have KB := hid (ka.trans kb)
  clear ka kb ry
  have MX := hid hm
  have MY := hid hn
  have DX := hid hd
  have EO : Hid (eqP x.o pZ = true) := hid (by rw [ho]; rfl)
  have ET : Hid (eqP x.t pZ = true) := hid (by rw [ht]; rfl)
  have BX := hid hb
  clear hm hn hd ht ho hb
  go_enter Try.func7, Try.ntmps7
  go_wp2_with (first | (refine wpList_is rfl _ _ (exec_box 49 _ x.cells.toArray rfl rfl) ?_) | (refine wpList_is rfl _ _ (exec_box 49 _ y.cells.toArray rfl rfl) ?_) | fail)
  refine (dAwake_any _).mono ?_
  rintro e w1 ⟨rfl, k1⟩
  have RX1 := hid (range_keep RX.out k1 (by simp))
  have RY1 := hid (range_keep RY.out k1 (by simp))
  have K1 := hid (KB.out.trans k1)
  have kz : Keeps [] w1 (w1.alloc (.cells pZ.cells.toArray 47)) := (Keeps.refl [] w1).alloc _
  have RZ := hid (range_new w1 pZ.cells 47)
  have RX2 := hid (range_keep RX1.out kz (by simp))
  have RY2 := hid (range_keep RY1.out kz (by simp))
  have K2 := hid (K1.out.trans kz)
  clear k1 kz
  go_wp2_with (first | (refine wpList_is rfl _ _ (exec_alloc 47 pZ.cells.toArray iPtr2 rfl) ?_) | (refine wpList_is rfl _ _ (exec_buildPtZ rfl) ?_) | (refine wpList_noval rfl _ (exec_storeNew 47 _ _ rfl w1 pZ.cells.toArray pZ.cells.toArray rfl rfl rfl iPtr2 rfl (cells_one pZ)) ?_) | (refine wpList_isW rfl _ _ (exec_load _ _ _ _ rfl rfl (loadDl_run _ w.heap.size 0 x RX2.out)) ?_) | fail)
  refine (dMay_any _ x).mono ?_
  rintro e w3 ⟨rfl, k3⟩
  rw [MX.out]
  have RX3 := hid (range_keep RX2.out k3 (by simp))
  have RY3 := hid (range_keep RY2.out k3 (by simp))
  have RZ3 := hid (range_keep RZ.out k3 (by simp))
  have K3 := hid (K2.out.trans k3)
  clear k3
  have d3 := dl_range RX3.out
  have c0 := d3.c0
  have D3 := hid d3
  rw [DX.out] at c0
  have c2 := d3.c2
  rw [BX.out] at c2
  simp only [Nat.zero_add] at c2
  clear d3
  go_wp2_with (first | go_big_skip | (refine wpList_isW rfl _ _ (exec_load _ _ _ _ rfl rfl (loadPt_run _ w.heap.size (0 + 9) x.o D3.out.o)) ?_) | (refine wpList_isW rfl _ _ (exec_load _ _ _ _ rfl rfl (loadPt_run _ w.heap.size (0 + 4) x.t D3.out.t)) ?_) | (refine wpList_isW rfl _ _ (exec_load _ _ _ _ rfl rfl (loadPt_run _ w1.heap.size 0 pZ RZ3.out)) ?_) | (refine wpList_isW rfl (.bool false) _ ((exec_neqPts _ _ _ x.o pZ rfl rfl rfl).trans (by rw [EO.out]; rfl)) ?_) | (refine wpList_isW rfl (.bool false) _ ((exec_neqPts _ _ _ x.t pZ rfl rfl rfl).trans (by rw [ET.out]; rfl)) ?_) | (refine wpList_isW rfl _ _ (exec_load _ _ _ _ rfl rfl (loadDl_run _ w.heap.size 0 x RX3.out)) ?_) | fail)
  clear c0 c2
  refine (dMay_any _ x).mono ?_
  rintro e w4 ⟨rfl, k4⟩
  rw [MX.out]
  have RX4 := hid (range_keep RX3.out k4 (by simp))
  have RY4 := hid (range_keep RY3.out k4 (by simp))
  have K4 := hid (K3.out.trans k4)
  clear k4
  go_wp2_with (first | go_big_skip | (refine wpList_isW rfl _ _ (exec_load _ _ _ _ rfl rfl (loadDl_run _ (w.heap.size + 1) 0 y RY4.out)) ?_) | fail)
  refine (dMay_any _ y).mono ?_
  rintro e w5 ⟨rfl, k5⟩
  rw [MY.out]
  have RX5 := hid (range_keep RX4.out k5 (by simp))
  have RY5 := hid (range_keep RY4.out k5 (by simp))
  have K5 := hid (K4.out.trans k5)
  clear k5
  go_wp2_with (first | go_big_skip | fail)
  go_ret
  exact ⟨rfl, K5.out⟩

set_option maxHeartbeats 12800000 in
theorem dKinds2_any (w : World) (x y : Dl) (hm : mayL x = true) (hd : x.d = 2) (ht : x.t = pZ) (ho : x.o = pZ) (hb : x.b = 0) (hn : mayL y = true) : Calls Try.prog 7 #[dlV x, dlV y] w fun e w' => e = .returned (.bool true) ∧ Keeps [] w w' := by
  have ka : Keeps [] w (w.alloc (.cells x.cells.toArray 49)) := (Keeps.refl [] w).alloc _
  have kb : Keeps [] (w.alloc (.cells x.cells.toArray 49)) ((w.alloc (.cells x.cells.toArray 49)).alloc (.cells y.cells.toArray 49)) := (Keeps.refl [] _).alloc _
  have RX := hid (range_keep (range_new w x.cells 49) kb (by simp))
  have ry := range_new (w.alloc (.cells x.cells.toArray 49)) y.cells 49
  rw [World.size_alloc] at ry
  have RY := hid ry
  have KB := hid (ka.trans kb)
  clear ka kb ry
  have MX := hid hm
  have MY := hid hn
  have DX := hid hd
  have EO : Hid (eqP x.o pZ = true) := hid (by rw [ho]; rfl)
  have ET : Hid (eqP x.t pZ = true) := hid (by rw [ht]; rfl)
  have BX := hid hb
  clear hm hn hd ht ho hb
  go_enter Try.func7, Try.ntmps7
  go_wp2_with (first | (refine wpList_is rfl _ _ (exec_box 49 _ x.cells.toArray rfl rfl) ?_) | (refine wpList_is rfl _ _ (exec_box 49 _ y.cells.toArray rfl rfl) ?_) | fail)
  refine (dAwake_any _).mono ?_
  rintro e w1 ⟨rfl, k1⟩
  have RX1 := hid (range_keep RX.out k1 (by simp))
  have RY1 := hid (range_keep RY.out k1 (by simp))
  have K1 := hid (KB.out.trans k1)
  have kz : Keeps [] w1 (w1.alloc (.cells pZ.cells.toArray 47)) := (Keeps.refl [] w1).alloc _
  have RZ := hid (range_new w1 pZ.cells 47)
  have RX2 := hid (range_keep RX1.out kz (by simp))
  have RY2 := hid (range_keep RY1.out kz (by simp))
  have K2 := hid (K1.out.trans kz)
  clear k1 kz
  go_wp2_with (first | (refine wpList_is rfl _ _ (exec_alloc 47 pZ.cells.toArray iPtr2 rfl) ?_) | (refine wpList_is rfl _ _ (exec_buildPtZ rfl) ?_) | (refine wpList_noval rfl _ (exec_storeNew 47 _ _ rfl w1 pZ.cells.toArray pZ.cells.toArray rfl rfl rfl iPtr2 rfl (cells_one pZ)) ?_) | (refine wpList_isW rfl _ _ (exec_load _ _ _ _ rfl rfl (loadDl_run _ w.heap.size 0 x RX2.out)) ?_) | fail)
  refine (dMay_any _ x).mono ?_
  rintro e w3 ⟨rfl, k3⟩
  rw [MX.out]
  have RX3 := hid (range_keep RX2.out k3 (by simp))
  have RY3 := hid (range_keep RY2.out k3 (by simp))
  have RZ3 := hid (range_keep RZ.out k3 (by simp))
  have K3 := hid (K2.out.trans k3)
  clear k3
  have d3 := dl_range RX3.out
  have c0 := d3.c0
  have D3 := hid d3
  rw [DX.out] at c0
  have c2 := d3.c2
  rw [BX.out] at c2
  simp only [Nat.zero_add] at c2
  clear d3
  go_wp2_with (first | go_big_skip | (refine wpList_isW rfl _ _ (exec_load _ _ _ _ rfl rfl (loadPt_run _ w.heap.size (0 + 9) x.o D3.out.o)) ?_) | (refine wpList_isW rfl _ _ (exec_load _ _ _ _ rfl rfl (loadPt_run _ w.heap.size (0 + 4) x.t D3.out.t)) ?_) | (refine wpList_isW rfl _ _ (exec_load _ _ _ _ rfl rfl (loadPt_run _ w1.heap.size 0 pZ RZ3.out)) ?_) | (refine wpList_isW rfl (.bool false) _ ((exec_neqPts _ _ _ x.o pZ rfl rfl rfl).trans (by rw [EO.out]; rfl)) ?_) | (refine wpList_isW rfl (.bool false) _ ((exec_neqPts _ _ _ x.t pZ rfl rfl rfl).trans (by rw [ET.out]; rfl)) ?_) | (refine wpList_isW rfl _ _ (exec_load _ _ _ _ rfl rfl (loadDl_run _ w.heap.size 0 x RX3.out)) ?_) | fail)
  clear c0 c2
  refine (dMay_any _ x).mono ?_
  rintro e w4 ⟨rfl, k4⟩
  rw [MX.out]
  have RX4 := hid (range_keep RX3.out k4 (by simp))
  have RY4 := hid (range_keep RY3.out k4 (by simp))
  have K4 := hid (K3.out.trans k4)
  clear k4
  go_wp2_with (first | go_big_skip | (refine wpList_isW rfl _ _ (exec_load _ _ _ _ rfl rfl (loadDl_run _ (w.heap.size + 1) 0 y RY4.out)) ?_) | fail)
  refine (dMay_any _ y).mono ?_
  rintro e w5 ⟨rfl, k5⟩
  rw [MY.out]
  have RX5 := hid (range_keep RX4.out k5 (by simp))
  have RY5 := hid (range_keep RY4.out k5 (by simp))
  have K5 := hid (K4.out.trans k5)
  clear k5
  have kx : Keeps [] w5 (w5.alloc (.cells x.cells.toArray 49)) := (Keeps.refl [] w5).alloc _
  have HE0 := dEncode_any (w5.alloc (.cells x.cells.toArray 49)) _ [x] (one_dl w5 x)
  rw [one_enc MX.out] at HE0
  have HE := hid HE0
  have KX := hid kx
  clear kx HE0
  go_wp2_with (first | (refine wpList_isW rfl _ _ (exec_load _ _ _ _ rfl rfl (loadDl_run _ w.heap.size 0 x RX5.out)) ?_) | (refine wpList_is rfl _ _ (exec_oneDl _ x rfl rfl) ?_) | fail)
  refine HE.out.mono ?_
  rintro e w6 ⟨a6, c6, rfl, r6, -, k6⟩
  have KK6 := KX.out.trans k6
  have RX6 := hid (range_keep RX5.out KK6 (by simp))
  have RY6 := hid (range_keep RY5.out KK6 (by simp))
  have RA6 := hid r6
  have K6 := hid (K5.out.trans KK6)
  have ky : Keeps [] w6 (w6.alloc (.cells y.cells.toArray 49)) := (Keeps.refl [] w6).alloc _
  have HF0 := dEncode_any (w6.alloc (.cells y.cells.toArray 49)) _ [y] (one_dl w6 y)
  rw [one_enc MY.out] at HF0
  have HF := hid HF0
  have KY := hid ky
  clear ky HF0 r6 k6 KK6 HE
  go_wp2_with (first | (refine wpList_isW rfl _ _ (exec_load _ _ _ _ rfl rfl (loadDl_run _ (w.heap.size + 1) 0 y RY6.out)) ?_) | (refine wpList_is rfl _ _ (exec_oneDl _ y rfl rfl) ?_) | fail)
  refine HF.out.mono ?_
  rintro e w7 ⟨a7, c7, rfl, r7, -, k7⟩
  have KK7 := KY.out.trans k7
  have RX7 := hid (range_keep RX6.out KK7 (by simp))
  have RY7 := hid (range_keep RY6.out KK7 (by simp))
  have RA7 := hid (RA6.out.keep KK7 (by intro _ _ _ _ _; simp))
  have RB7 := hid r7
  have K7 := hid (K6.out.trans KK7)
  have HX7 := hid (show w.heap.size < w7.heap.size from World.block_lt_of_cell? _ _ (RX7.out 0 _ rfl))
  have HY7 := hid (show w.heap.size + 1 < w7.heap.size from World.block_lt_of_cell? _ _ (RY7.out 0 _ rfl))
  clear r7 k7 KK7 HF
  obtain ⟨xs, hxs⟩ : ∃ l, l = allB [x] := ⟨_, rfl⟩
  obtain ⟨ys, hys⟩ : ∃ l, l = allB [y] := ⟨_, rfl⟩
  have SM := hid (show decide (xs = ys) = eqD x y by rw [hxs, hys]; exact one_same MX.out MY.out)
  have LX := hid (show xs.length ≤ 35184372088832 by rw [hxs]; exact allB_one x)
  have LY := hid (show ys.length ≤ 35184372088832 by rw [hys]; exact allB_one y)
  simp only at RA7 RB7
  rw [← hxs] at RA7 ⊢
  rw [← hys] at RB7 ⊢
  clear hxs hys
  obtain ⟨m, hm⟩ : ∃ m, m = eqD x y := ⟨_, rfl⟩
  have HM := hid hm
  rw [← hm] at SM
  clear hm
  go_wp2_with fail
  refine wp_region_any (by kernel_rfl) (wpAny_of_held (S := KpS [] w7.heap.size w7.drew) _ _ _ _ ?_)
  change wpAnyH _ _ _ _ _ _ _ _ w7.drew
  have cX : ∀ W1, KpS [] w7.heap.size w7.drew W1 → W1.rangeAt w.heap.size 0 x.cells := fun W1 h j v hv => h.cell (by rw [World.cell?_drew]; exact RX7.out j v hv) HX7.out (by simp)
  have cY : ∀ W1, KpS [] w7.heap.size w7.drew W1 → W1.rangeAt (w.heap.size + 1) 0 y.cells := fun W1 h j v hv => h.cell (by rw [World.cell?_drew]; exact RY7.out j v hv) HY7.out (by simp)
  refine held_take (i := 0) (v := .int .i64 0) rfl (by kernel_rfl) (by kernel_rfl) (by kernel_rfl) (fun _ _ _ h => h) rfl (fun W1 hW1 => rfl) (KpS.refl _ _ _) ?_
  simp only [Act.put, List.setIfInBounds_toArray, List.set_cons_zero, List.set_cons_succ]
  refine held_take (i := 1) (v := .bool true) rfl (by kernel_rfl) (by kernel_rfl) (by kernel_rfl) (fun _ _ _ h => h) rfl (fun W1 hW1 => by go_simp) (KpS.refl _ _ _) ?_
  simp only [Act.put, List.setIfInBounds_toArray, List.set_cons_zero, List.set_cons_succ]
  refine held_take (i := 2) (v := .bool true) rfl (by kernel_rfl) (by kernel_rfl) (by kernel_rfl) (fun _ _ _ h => h) rfl (fun W1 hW1 => rfl) (KpS.refl _ _ _) ?_
  simp only [Act.put, List.setIfInBounds_toArray, List.set_cons_zero, List.set_cons_succ]
  refine held_takeW (i := 3) (v := .int .i64 0) rfl (by kernel_rfl) (by kernel_rfl) (by kernel_rfl) (fun _ _ _ h => h) rfl (fun W1 hW1 => rfl) (KpS.refl _ _ _) ?_
  simp only [Act.put, List.setIfInBounds_toArray, List.set_cons_zero, List.set_cons_succ]
  refine held_takeW (i := 4) (v := .bool true) rfl (by kernel_rfl) (by kernel_rfl) (by kernel_rfl) (fun _ _ _ h => h) rfl (fun W1 hW1 => by go_simp) (KpS.refl _ _ _) ?_
  simp only [Act.put, List.setIfInBounds_toArray, List.set_cons_zero, List.set_cons_succ]
  refine held_take (i := 5) (v := .bool true) rfl (by kernel_rfl) (by kernel_rfl) (by kernel_rfl) (fun _ _ _ h => h) rfl (fun W1 hW1 => rfl) (KpS.refl _ _ _) ?_
  simp only [Act.put, List.setIfInBounds_toArray, List.set_cons_zero, List.set_cons_succ]
  refine held_take (i := 6) (v := .bool true) rfl (by kernel_rfl) (by kernel_rfl) (by kernel_rfl) (fun _ _ _ h => h) rfl (fun W1 hW1 => rfl) (KpS.refl _ _ _) ?_
  simp only [Act.put, List.setIfInBounds_toArray, List.set_cons_zero, List.set_cons_succ]
  refine held_takeW (i := 7) (v := .slice a6 xs.length c6) rfl (by kernel_rfl) (by kernel_rfl) (by kernel_rfl) (fun _ _ _ h => h) rfl (fun W1 hW1 => rfl) (KpS.refl _ _ _) ?_
  simp only [Act.put, List.setIfInBounds_toArray, List.set_cons_zero, List.set_cons_succ]
  refine held_takeW (i := 8) (v := .slice a7 ys.length c7) rfl (by kernel_rfl) (by kernel_rfl) (by kernel_rfl) (fun _ _ _ h => h) rfl (fun W1 hW1 => rfl) (KpS.refl _ _ _) ?_
  simp only [Act.put, List.setIfInBounds_toArray, List.set_cons_zero, List.set_cons_succ]
  refine held_takeW (i := 10) (v := dlV x) rfl (by kernel_rfl) (by kernel_rfl) (by kernel_rfl) (fun _ _ _ h => h) rfl (fun W1 hW1 => exec_load _ _ _ _ rfl rfl (loadDl_run W1 w.heap.size 0 x (cX W1 hW1))) (KpS.refl _ _ _) ?_
  simp only [Act.put, List.setIfInBounds_toArray, List.set_cons_zero, List.set_cons_succ]
  refine held_takeW (i := 11) (v := dlV y) rfl (by kernel_rfl) (by kernel_rfl) (by kernel_rfl) (fun _ _ _ h => h) rfl (fun W1 hW1 => exec_load _ _ _ _ rfl rfl (loadDl_run W1 (w.heap.size + 1) 0 y (cY W1 hW1))) (KpS.refl _ _ _) ?_
  simp only [Act.put, List.setIfInBounds_toArray, List.set_cons_zero, List.set_cons_succ]
  refine held_takeW (i := 12) (v := .bool m) rfl (by kernel_rfl) (by kernel_rfl) (by kernel_rfl) (fun _ _ _ h => h) rfl (fun W1 hW1 => (exec_eqDl _ _ _ x y rfl rfl rfl).trans (by rw [← HM.out])) (KpS.refl _ _ _) ?_
  simp only [Act.put, List.setIfInBounds_toArray, List.set_cons_zero, List.set_cons_succ]
  refine held_doW (i := 9) (by kernel_rfl) rfl rfl (wp_enter (f := 25) (args := #[.slice a6 xs.length c6, .slice a7 ys.length c7]) (by go_simp) (same_any w7.drew _ _ xs ys (RA7.out.keep (Keeps.refl [] w7).drew (by intro _ _ _ _ _; simp)) (RB7.out.keep (Keeps.refl [] w7).drew (by intro _ _ _ _ _; simp)) LX.out LY.out) ?_)
  rintro e w8 ⟨rfl, n, hw8⟩
  rw [SM.out]
  have k8 : Keeps [] w7.drew w8 := by rw [hw8]; exact (Keeps.refl _ _).drewN n
  have kp8 : KpS [] w7.heap.size w7.drew w8 := (KpS.refl _ _ _).keeps k8 (Nat.le_refl _) (fun i hi _ => hi)
  refine ⟨_, rfl, kp8, ?_⟩
  simp only [Act.put, List.setIfInBounds_toArray, List.set_cons_zero, List.set_cons_succ]
  have K8 := hid (K7.out.drew.trans k8)
  clear hw8 k8
  refine held_takeW (i := 13) (v := .bool true) rfl (by kernel_rfl) (by kernel_rfl) (by kernel_rfl) (fun _ _ _ h => h) rfl (fun W1 hW1 => by cases m <;> go_simp) (kp8) ?_
  simp only [Act.put, List.setIfInBounds_toArray, List.set_cons_zero, List.set_cons_succ]
  refine held_take (i := 14) (v := .bool true) rfl (by kernel_rfl) (by kernel_rfl) (by kernel_rfl) (fun _ _ _ h => h) rfl (fun W1 hW1 => rfl) (kp8) ?_
  simp only [Act.put, List.setIfInBounds_toArray, List.set_cons_zero, List.set_cons_succ]
  refine held_take (i := 15) (v := .bool true) rfl (by kernel_rfl) (by kernel_rfl) (by kernel_rfl) (fun _ _ _ h => h) rfl (fun W1 hW1 => rfl) (kp8) ?_
  simp only [Act.put, List.setIfInBounds_toArray, List.set_cons_zero, List.set_cons_succ]
  refine wpAnyH_done (by kernel_rfl) ?_ _
  clear cX cY kp8
  go_wp2_with fail
  go_ret
  exact ⟨rfl, K8.out⟩

set_option maxHeartbeats 12800000 in
theorem dKinds3_anyN (w : World) (x y : Dl) (hm : mayL x = true) (hd : x.d = 3) (hs : x.s = 0) (hn : mayL y = false) : Calls Try.prog 7 #[dlV x, dlV y] w fun e w' => e = .returned (.bool true) ∧ Keeps [] w w' := by
  have ka : Keeps [] w (w.alloc (.cells x.cells.toArray 49)) := (Keeps.refl [] w).alloc _
  have kb : Keeps [] (w.alloc (.cells x.cells.toArray 49)) ((w.alloc (.cells x.cells.toArray 49)).alloc (.cells y.cells.toArray 49)) := (Keeps.refl [] _).alloc _
  have RX := hid (range_keep (range_new w x.cells 49) kb (by simp))
  have ry := range_new (w.alloc (.cells x.cells.toArray 49)) y.cells 49
  rw [World.size_alloc] at ry
  have RY := hid ry
  have KB := hid (ka.trans kb)
  clear ka kb ry
  have MX := hid hm
  have MY := hid hn
  have DX := hid hd
  have SX := hid hs
  clear hm hn hd hs
  go_enter Try.func7, Try.ntmps7
  go_wp2_with (first | (refine wpList_is rfl _ _ (exec_box 49 _ x.cells.toArray rfl rfl) ?_) | (refine wpList_is rfl _ _ (exec_box 49 _ y.cells.toArray rfl rfl) ?_) | fail)
  refine (dAwake_any _).mono ?_
  rintro e w1 ⟨rfl, k1⟩
  have RX1 := hid (range_keep RX.out k1 (by simp))
  have RY1 := hid (range_keep RY.out k1 (by simp))
  have K1 := hid (KB.out.trans k1)
  have kz : Keeps [] w1 (w1.alloc (.cells pZ.cells.toArray 47)) := (Keeps.refl [] w1).alloc _
  have RZ := hid (range_new w1 pZ.cells 47)
  have RX2 := hid (range_keep RX1.out kz (by simp))
  have RY2 := hid (range_keep RY1.out kz (by simp))
  have K2 := hid (K1.out.trans kz)
  clear k1 kz
  go_wp2_with (first | (refine wpList_is rfl _ _ (exec_alloc 47 pZ.cells.toArray iPtr2 rfl) ?_) | (refine wpList_is rfl _ _ (exec_buildPtZ rfl) ?_) | (refine wpList_noval rfl _ (exec_storeNew 47 _ _ rfl w1 pZ.cells.toArray pZ.cells.toArray rfl rfl rfl iPtr2 rfl (cells_one pZ)) ?_) | (refine wpList_isW rfl _ _ (exec_load _ _ _ _ rfl rfl (loadDl_run _ w.heap.size 0 x RX2.out)) ?_) | fail)
  refine (dMay_any _ x).mono ?_
  rintro e w3 ⟨rfl, k3⟩
  rw [MX.out]
  have RX3 := hid (range_keep RX2.out k3 (by simp))
  have RY3 := hid (range_keep RY2.out k3 (by simp))
  have RZ3 := hid (range_keep RZ.out k3 (by simp))
  have K3 := hid (K2.out.trans k3)
  clear k3
  have d3 := dl_range RX3.out
  have c0 := d3.c0
  have D3 := hid d3
  rw [DX.out] at c0
  have c3 := d3.c3
  rw [SX.out] at c3
  simp only [Nat.zero_add] at c3
  clear d3
  go_wp2_with (first | go_big_skip | (refine wpList_isW rfl _ _ (exec_load _ _ _ _ rfl rfl (loadDl_run _ w.heap.size 0 x RX3.out)) ?_) | fail)
  clear c0 c3
  refine (dMay_any _ x).mono ?_
  rintro e w4 ⟨rfl, k4⟩
  rw [MX.out]
  have RX4 := hid (range_keep RX3.out k4 (by simp))
  have RY4 := hid (range_keep RY3.out k4 (by simp))
  have K4 := hid (K3.out.trans k4)
  clear k4
  go_wp2_with (first | go_big_skip | (refine wpList_isW rfl _ _ (exec_load _ _ _ _ rfl rfl (loadDl_run _ (w.heap.size + 1) 0 y RY4.out)) ?_) | fail)
  refine (dMay_any _ y).mono ?_
  rintro e w5 ⟨rfl, k5⟩
  rw [MY.out]
  have RX5 := hid (range_keep RX4.out k5 (by simp))
  have RY5 := hid (range_keep RY4.out k5 (by simp))
  have K5 := hid (K4.out.trans k5)
  clear k5
  go_wp2_with (first | go_big_skip | fail)
  go_ret
  exact ⟨rfl, K5.out⟩

set_option maxHeartbeats 12800000 in
theorem dKinds3_any (w : World) (x y : Dl) (hm : mayL x = true) (hd : x.d = 3) (hs : x.s = 0) (hn : mayL y = true) : Calls Try.prog 7 #[dlV x, dlV y] w fun e w' => e = .returned (.bool true) ∧ Keeps [] w w' := by
  have ka : Keeps [] w (w.alloc (.cells x.cells.toArray 49)) := (Keeps.refl [] w).alloc _
  have kb : Keeps [] (w.alloc (.cells x.cells.toArray 49)) ((w.alloc (.cells x.cells.toArray 49)).alloc (.cells y.cells.toArray 49)) := (Keeps.refl [] _).alloc _
  have RX := hid (range_keep (range_new w x.cells 49) kb (by simp))
  have ry := range_new (w.alloc (.cells x.cells.toArray 49)) y.cells 49
  rw [World.size_alloc] at ry
  have RY := hid ry
  have KB := hid (ka.trans kb)
  clear ka kb ry
  have MX := hid hm
  have MY := hid hn
  have DX := hid hd
  have SX := hid hs
  clear hm hn hd hs
  go_enter Try.func7, Try.ntmps7
  go_wp2_with (first | (refine wpList_is rfl _ _ (exec_box 49 _ x.cells.toArray rfl rfl) ?_) | (refine wpList_is rfl _ _ (exec_box 49 _ y.cells.toArray rfl rfl) ?_) | fail)
  refine (dAwake_any _).mono ?_
  rintro e w1 ⟨rfl, k1⟩
  have RX1 := hid (range_keep RX.out k1 (by simp))
  have RY1 := hid (range_keep RY.out k1 (by simp))
  have K1 := hid (KB.out.trans k1)
  have kz : Keeps [] w1 (w1.alloc (.cells pZ.cells.toArray 47)) := (Keeps.refl [] w1).alloc _
  have RZ := hid (range_new w1 pZ.cells 47)
  have RX2 := hid (range_keep RX1.out kz (by simp))
  have RY2 := hid (range_keep RY1.out kz (by simp))
  have K2 := hid (K1.out.trans kz)
  clear k1 kz
  go_wp2_with (first | (refine wpList_is rfl _ _ (exec_alloc 47 pZ.cells.toArray iPtr2 rfl) ?_) | (refine wpList_is rfl _ _ (exec_buildPtZ rfl) ?_) | (refine wpList_noval rfl _ (exec_storeNew 47 _ _ rfl w1 pZ.cells.toArray pZ.cells.toArray rfl rfl rfl iPtr2 rfl (cells_one pZ)) ?_) | (refine wpList_isW rfl _ _ (exec_load _ _ _ _ rfl rfl (loadDl_run _ w.heap.size 0 x RX2.out)) ?_) | fail)
  refine (dMay_any _ x).mono ?_
  rintro e w3 ⟨rfl, k3⟩
  rw [MX.out]
  have RX3 := hid (range_keep RX2.out k3 (by simp))
  have RY3 := hid (range_keep RY2.out k3 (by simp))
  have RZ3 := hid (range_keep RZ.out k3 (by simp))
  have K3 := hid (K2.out.trans k3)
  clear k3
  have d3 := dl_range RX3.out
  have c0 := d3.c0
  have D3 := hid d3
  rw [DX.out] at c0
  have c3 := d3.c3
  rw [SX.out] at c3
  simp only [Nat.zero_add] at c3
  clear d3
  go_wp2_with (first | go_big_skip | (refine wpList_isW rfl _ _ (exec_load _ _ _ _ rfl rfl (loadDl_run _ w.heap.size 0 x RX3.out)) ?_) | fail)
  clear c0 c3
  refine (dMay_any _ x).mono ?_
  rintro e w4 ⟨rfl, k4⟩
  rw [MX.out]
  have RX4 := hid (range_keep RX3.out k4 (by simp))
  have RY4 := hid (range_keep RY3.out k4 (by simp))
  have K4 := hid (K3.out.trans k4)
  clear k4
  go_wp2_with (first | go_big_skip | (refine wpList_isW rfl _ _ (exec_load _ _ _ _ rfl rfl (loadDl_run _ (w.heap.size + 1) 0 y RY4.out)) ?_) | fail)
  refine (dMay_any _ y).mono ?_
  rintro e w5 ⟨rfl, k5⟩
  rw [MY.out]
  have RX5 := hid (range_keep RX4.out k5 (by simp))
  have RY5 := hid (range_keep RY4.out k5 (by simp))
  have K5 := hid (K4.out.trans k5)
  clear k5
  have kx : Keeps [] w5 (w5.alloc (.cells x.cells.toArray 49)) := (Keeps.refl [] w5).alloc _
  have HE0 := dEncode_any (w5.alloc (.cells x.cells.toArray 49)) _ [x] (one_dl w5 x)
  rw [one_enc MX.out] at HE0
  have HE := hid HE0
  have KX := hid kx
  clear kx HE0
  go_wp2_with (first | (refine wpList_isW rfl _ _ (exec_load _ _ _ _ rfl rfl (loadDl_run _ w.heap.size 0 x RX5.out)) ?_) | (refine wpList_is rfl _ _ (exec_oneDl _ x rfl rfl) ?_) | fail)
  refine HE.out.mono ?_
  rintro e w6 ⟨a6, c6, rfl, r6, -, k6⟩
  have KK6 := KX.out.trans k6
  have RX6 := hid (range_keep RX5.out KK6 (by simp))
  have RY6 := hid (range_keep RY5.out KK6 (by simp))
  have RA6 := hid r6
  have K6 := hid (K5.out.trans KK6)
  have ky : Keeps [] w6 (w6.alloc (.cells y.cells.toArray 49)) := (Keeps.refl [] w6).alloc _
  have HF0 := dEncode_any (w6.alloc (.cells y.cells.toArray 49)) _ [y] (one_dl w6 y)
  rw [one_enc MY.out] at HF0
  have HF := hid HF0
  have KY := hid ky
  clear ky HF0 r6 k6 KK6 HE
  go_wp2_with (first | (refine wpList_isW rfl _ _ (exec_load _ _ _ _ rfl rfl (loadDl_run _ (w.heap.size + 1) 0 y RY6.out)) ?_) | (refine wpList_is rfl _ _ (exec_oneDl _ y rfl rfl) ?_) | fail)
  refine HF.out.mono ?_
  rintro e w7 ⟨a7, c7, rfl, r7, -, k7⟩
  have KK7 := KY.out.trans k7
  have RX7 := hid (range_keep RX6.out KK7 (by simp))
  have RY7 := hid (range_keep RY6.out KK7 (by simp))
  have RA7 := hid (RA6.out.keep KK7 (by intro _ _ _ _ _; simp))
  have RB7 := hid r7
  have K7 := hid (K6.out.trans KK7)
  have HX7 := hid (show w.heap.size < w7.heap.size from World.block_lt_of_cell? _ _ (RX7.out 0 _ rfl))
  have HY7 := hid (show w.heap.size + 1 < w7.heap.size from World.block_lt_of_cell? _ _ (RY7.out 0 _ rfl))
  clear r7 k7 KK7 HF
  obtain ⟨xs, hxs⟩ : ∃ l, l = allB [x] := ⟨_, rfl⟩
  obtain ⟨ys, hys⟩ : ∃ l, l = allB [y] := ⟨_, rfl⟩
  have SM := hid (show decide (xs = ys) = eqD x y by rw [hxs, hys]; exact one_same MX.out MY.out)
  have LX := hid (show xs.length ≤ 35184372088832 by rw [hxs]; exact allB_one x)
  have LY := hid (show ys.length ≤ 35184372088832 by rw [hys]; exact allB_one y)
  simp only at RA7 RB7
  rw [← hxs] at RA7 ⊢
  rw [← hys] at RB7 ⊢
  clear hxs hys
  obtain ⟨m, hm⟩ : ∃ m, m = eqD x y := ⟨_, rfl⟩
  have HM := hid hm
  rw [← hm] at SM
  clear hm
  go_wp2_with fail
  refine wp_region_any (by kernel_rfl) (wpAny_of_held (S := KpS [] w7.heap.size w7.drew) _ _ _ _ ?_)
  change wpAnyH _ _ _ _ _ _ _ _ w7.drew
  have cX : ∀ W1, KpS [] w7.heap.size w7.drew W1 → W1.rangeAt w.heap.size 0 x.cells := fun W1 h j v hv => h.cell (by rw [World.cell?_drew]; exact RX7.out j v hv) HX7.out (by simp)
  have cY : ∀ W1, KpS [] w7.heap.size w7.drew W1 → W1.rangeAt (w.heap.size + 1) 0 y.cells := fun W1 h j v hv => h.cell (by rw [World.cell?_drew]; exact RY7.out j v hv) HY7.out (by simp)
  refine held_take (i := 0) (v := .int .i64 0) rfl (by kernel_rfl) (by kernel_rfl) (by kernel_rfl) (fun _ _ _ h => h) rfl (fun W1 hW1 => rfl) (KpS.refl _ _ _) ?_
  simp only [Act.put, List.setIfInBounds_toArray, List.set_cons_zero, List.set_cons_succ]
  refine held_take (i := 1) (v := .bool true) rfl (by kernel_rfl) (by kernel_rfl) (by kernel_rfl) (fun _ _ _ h => h) rfl (fun W1 hW1 => by go_simp) (KpS.refl _ _ _) ?_
  simp only [Act.put, List.setIfInBounds_toArray, List.set_cons_zero, List.set_cons_succ]
  refine held_take (i := 2) (v := .bool true) rfl (by kernel_rfl) (by kernel_rfl) (by kernel_rfl) (fun _ _ _ h => h) rfl (fun W1 hW1 => rfl) (KpS.refl _ _ _) ?_
  simp only [Act.put, List.setIfInBounds_toArray, List.set_cons_zero, List.set_cons_succ]
  refine held_takeW (i := 3) (v := .int .i64 0) rfl (by kernel_rfl) (by kernel_rfl) (by kernel_rfl) (fun _ _ _ h => h) rfl (fun W1 hW1 => rfl) (KpS.refl _ _ _) ?_
  simp only [Act.put, List.setIfInBounds_toArray, List.set_cons_zero, List.set_cons_succ]
  refine held_takeW (i := 4) (v := .bool true) rfl (by kernel_rfl) (by kernel_rfl) (by kernel_rfl) (fun _ _ _ h => h) rfl (fun W1 hW1 => by go_simp) (KpS.refl _ _ _) ?_
  simp only [Act.put, List.setIfInBounds_toArray, List.set_cons_zero, List.set_cons_succ]
  refine held_take (i := 5) (v := .bool true) rfl (by kernel_rfl) (by kernel_rfl) (by kernel_rfl) (fun _ _ _ h => h) rfl (fun W1 hW1 => rfl) (KpS.refl _ _ _) ?_
  simp only [Act.put, List.setIfInBounds_toArray, List.set_cons_zero, List.set_cons_succ]
  refine held_take (i := 6) (v := .bool true) rfl (by kernel_rfl) (by kernel_rfl) (by kernel_rfl) (fun _ _ _ h => h) rfl (fun W1 hW1 => rfl) (KpS.refl _ _ _) ?_
  simp only [Act.put, List.setIfInBounds_toArray, List.set_cons_zero, List.set_cons_succ]
  refine held_takeW (i := 7) (v := .slice a6 xs.length c6) rfl (by kernel_rfl) (by kernel_rfl) (by kernel_rfl) (fun _ _ _ h => h) rfl (fun W1 hW1 => rfl) (KpS.refl _ _ _) ?_
  simp only [Act.put, List.setIfInBounds_toArray, List.set_cons_zero, List.set_cons_succ]
  refine held_takeW (i := 8) (v := .slice a7 ys.length c7) rfl (by kernel_rfl) (by kernel_rfl) (by kernel_rfl) (fun _ _ _ h => h) rfl (fun W1 hW1 => rfl) (KpS.refl _ _ _) ?_
  simp only [Act.put, List.setIfInBounds_toArray, List.set_cons_zero, List.set_cons_succ]
  refine held_takeW (i := 10) (v := dlV x) rfl (by kernel_rfl) (by kernel_rfl) (by kernel_rfl) (fun _ _ _ h => h) rfl (fun W1 hW1 => exec_load _ _ _ _ rfl rfl (loadDl_run W1 w.heap.size 0 x (cX W1 hW1))) (KpS.refl _ _ _) ?_
  simp only [Act.put, List.setIfInBounds_toArray, List.set_cons_zero, List.set_cons_succ]
  refine held_takeW (i := 11) (v := dlV y) rfl (by kernel_rfl) (by kernel_rfl) (by kernel_rfl) (fun _ _ _ h => h) rfl (fun W1 hW1 => exec_load _ _ _ _ rfl rfl (loadDl_run W1 (w.heap.size + 1) 0 y (cY W1 hW1))) (KpS.refl _ _ _) ?_
  simp only [Act.put, List.setIfInBounds_toArray, List.set_cons_zero, List.set_cons_succ]
  refine held_takeW (i := 12) (v := .bool m) rfl (by kernel_rfl) (by kernel_rfl) (by kernel_rfl) (fun _ _ _ h => h) rfl (fun W1 hW1 => (exec_eqDl _ _ _ x y rfl rfl rfl).trans (by rw [← HM.out])) (KpS.refl _ _ _) ?_
  simp only [Act.put, List.setIfInBounds_toArray, List.set_cons_zero, List.set_cons_succ]
  refine held_doW (i := 9) (by kernel_rfl) rfl rfl (wp_enter (f := 25) (args := #[.slice a6 xs.length c6, .slice a7 ys.length c7]) (by go_simp) (same_any w7.drew _ _ xs ys (RA7.out.keep (Keeps.refl [] w7).drew (by intro _ _ _ _ _; simp)) (RB7.out.keep (Keeps.refl [] w7).drew (by intro _ _ _ _ _; simp)) LX.out LY.out) ?_)
  rintro e w8 ⟨rfl, n, hw8⟩
  rw [SM.out]
  have k8 : Keeps [] w7.drew w8 := by rw [hw8]; exact (Keeps.refl _ _).drewN n
  have kp8 : KpS [] w7.heap.size w7.drew w8 := (KpS.refl _ _ _).keeps k8 (Nat.le_refl _) (fun i hi _ => hi)
  refine ⟨_, rfl, kp8, ?_⟩
  simp only [Act.put, List.setIfInBounds_toArray, List.set_cons_zero, List.set_cons_succ]
  have K8 := hid (K7.out.drew.trans k8)
  clear hw8 k8
  refine held_takeW (i := 13) (v := .bool true) rfl (by kernel_rfl) (by kernel_rfl) (by kernel_rfl) (fun _ _ _ h => h) rfl (fun W1 hW1 => by cases m <;> go_simp) (kp8) ?_
  simp only [Act.put, List.setIfInBounds_toArray, List.set_cons_zero, List.set_cons_succ]
  refine held_take (i := 14) (v := .bool true) rfl (by kernel_rfl) (by kernel_rfl) (by kernel_rfl) (fun _ _ _ h => h) rfl (fun W1 hW1 => rfl) (kp8) ?_
  simp only [Act.put, List.setIfInBounds_toArray, List.set_cons_zero, List.set_cons_succ]
  refine held_take (i := 15) (v := .bool true) rfl (by kernel_rfl) (by kernel_rfl) (by kernel_rfl) (fun _ _ _ h => h) rfl (fun W1 hW1 => rfl) (kp8) ?_
  simp only [Act.put, List.setIfInBounds_toArray, List.set_cons_zero, List.set_cons_succ]
  refine wpAnyH_done (by kernel_rfl) ?_ _
  clear cX cY kp8
  go_wp2_with fail
  go_ret
  exact ⟨rfl, K8.out⟩

theorem m12Kinds_any (w : World) (x y : Dl) : Calls Try.prog 7 #[dlV x, dlV y] w fun e w' => e = .returned (.bool true) ∧ Keeps [] w w' := by
  cases hm : mayL x with
  | false => exact dKindsN_any w x y hm
  | true =>
    cases hn : mayL y with
    | false =>
      rcases mayL_kind hm with ⟨h1, h2⟩ | ⟨h1, h2, h3, h4⟩ | ⟨h1, h2⟩
      · exact dKinds1_anyN w x y hm h1 h2 hn
      · exact dKinds2_anyN w x y hm h1 h2 h3 h4 hn
      · exact dKinds3_anyN w x y hm h1 h2 hn
    | true =>
      rcases mayL_kind hm with ⟨h1, h2⟩ | ⟨h1, h2, h3, h4⟩ | ⟨h1, h2⟩
      · exact dKinds1_any w x y hm h1 h2 hn
      · exact dKinds2_any w x y hm h1 h2 h3 h4 hn
      · exact dKinds3_any w x y hm h1 h2 hn
end Go.Proofs.Ytamcllcjondcpaa
