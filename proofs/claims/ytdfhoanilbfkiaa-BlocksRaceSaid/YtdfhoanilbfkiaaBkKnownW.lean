/- blocks: the walk of the law BlocksKnown. -/
import Derived.Test.YtdfhoanilbfkiaaBkM
namespace Go.Proofs.Ytdfhoanilbfkiaa
open Go.RowKit Go.Shelf
set_option maxRecDepth 100000
set_option linter.unusedSimpArgs false

theorem stored_range {w : World} {g : Nat} {t : Pt} (h : w.heap[g]? = some (.cells (pZ.cells.toArray.toList.take 0 ++ t.cells ++ pZ.cells.toArray.toList.drop (0 + 5)).toArray 28 (0, 0))) : w.rangeAt g 0 t.cells := fun j v hv => by
  rw [Nat.zero_add, cell_of_row w g j _ _ (0, 0) h]
  simpa [Pt.cells] using hv
def knP : Pt := mkP 1 5 0 10
def knQ : Pt := mkP 1 6 0 22
def knR : Pt := mkP 4 0 0 10
def kd1 : Dl := ⟨1, 2, 0, 10, knP, pZ⟩
def kd2 : Dl := ⟨1, 2, 2, 150, knQ, pZ⟩
def kd3 : Dl := ⟨3, 2, 0, 0, knR, knQ⟩
def kd4 : Dl := ⟨3, 2, 0, 0, knR, knP⟩
def ks1 : Bk := ⟨10, [knP]⟩
def ks2 : Bk := ⟨150, [knP, pZ, knQ]⟩
def ks4 : Bk := ⟨150, [knR, pZ, knQ]⟩
theorem ks1_is : stepD bk0 kd1 = ks1 := by unfold stepD; rw [if_pos (by decide)]; rfl
theorem ks2_is : stepD ks1 kd2 = ks2 := by unfold stepD; rw [if_pos (by decide)]; rfl
theorem ks3_is : stepD ks2 kd3 = ks2 := by unfold stepD; rw [if_neg (by decide)]
theorem ks4_is : stepD ks2 kd4 = ks4 := by unfold stepD; rw [if_pos (by decide)]; rfl
theorem kg4_is : goneD ks2 kd4 = [knP] := by decide
theorem km3 : mayD ks2 kd3 = false := by decide
theorem km4 : mayD ks2 kd4 = true := by decide
set_option maxHeartbeats 6400000 in
theorem m11Known_any (w : World) : Calls Try.prog 3 #[] w fun e w' => e = .returned (.bool true) ∧ Keeps [] w w' := by
  go_enter Try.func3, Try.ntmps3
  go_wp2_with fail
  refine (bkAwake_any w).mono ?_
  rintro e w1 ⟨rfl, k1⟩
  have K1 := hid k1
  clear k1
  have B0 := hid (bk_new w1 [])
  have K0 : Hid (Keeps [] w1 (w1.alloc (.cells #[.bool true, .int .i64 0, .slice none 0 0] 66))) := hid ((Keeps.refl [] w1).alloc _)
  have N := hid (zNew_any w1)
  go_wp2_with fail
  refine N.out.mono ?_
  rintro e w2 ⟨rfl, hw⟩
  rw [← hw] at B0 K0
  have HQ := hid (show w1.heap.size < w2.heap.size by rw [hw]; simp)
  clear hw N
  obtain ⟨m, hm⟩ : ∃ m, m = w1.heap.size := ⟨_, rfl⟩
  have K2 := hid (K1.out.trans K0.out)
  have HWM := hid (show w.heap.size ≤ m by rw [hm]; exact K1.out.size)
  rw [← hm] at B0 HQ ⊢
  clear hm K0
  go_wp2_with fail
  refine (lPtr_any w2 1 5 0 10).mono ?_
  rintro e w3 ⟨rfl, k3⟩
  go_wp2_with fail
  refine (lPtr_any w3 1 6 0 22).mono ?_
  rintro e w4 ⟨rfl, k4⟩
  go_wp2_with fail
  refine (lPtr_any w4 4 0 0 10).mono ?_
  rintro e w5 ⟨rfl, k5⟩
  have B5 := hid (B0.out.later ((k3.trans k4).trans k5))
  have K5 := hid (K2.out.trans ((k3.trans k4).trans k5))
  clear k3 k4 k5 B0 K2 HQ K1
  have HA : Hid ((((w5.alloc (.cells pZ.cells.toArray 28)).alloc (.cells pZ.cells.toArray 28)).alloc (.cells pZ.cells.toArray 28)).heap[w5.heap.size]? = some (.cells pZ.cells.toArray 28 (0, 0))) := hid (by
    rw [Below.heap_alloc _ _ _ (by simp; omega), Below.heap_alloc _ _ _ (by simp)]; exact heap_alloc_new w5 _)
  have HB : Hid ((((w5.alloc (.cells pZ.cells.toArray 28)).alloc (.cells pZ.cells.toArray 28)).alloc (.cells pZ.cells.toArray 28)).heap[w5.heap.size + 1]? = some (.cells pZ.cells.toArray 28 (0, 0))) := hid (by
    rw [Below.heap_alloc _ _ _ (by simp)]; have := heap_alloc_new (w5.alloc (.cells pZ.cells.toArray 28)) (.cells pZ.cells.toArray 28); simpa using this)
  have HC : Hid ((((w5.alloc (.cells pZ.cells.toArray 28)).alloc (.cells pZ.cells.toArray 28)).alloc (.cells pZ.cells.toArray 28)).heap[w5.heap.size + 1 + 1]? = some (.cells pZ.cells.toArray 28 (0, 0))) := hid (by
    have := heap_alloc_new ((w5.alloc (.cells pZ.cells.toArray 28)).alloc (.cells pZ.cells.toArray 28)) (.cells pZ.cells.toArray 28); simpa using this)
  have KQ : Hid (Keeps [] w5 (((w5.alloc (.cells pZ.cells.toArray 28)).alloc (.cells pZ.cells.toArray 28)).alloc (.cells pZ.cells.toArray 28))) := hid ((((Keeps.refl [] w5).alloc _).alloc _).alloc _)
  have HBk := hid (fun (W : World) (k : Keeps [w5.heap.size] (((w5.alloc (.cells pZ.cells.toArray 28)).alloc (.cells pZ.cells.toArray 28)).alloc (.cells pZ.cells.toArray 28)) W) => (k.block _ (lt_of_block HB.out) (by simp)).trans HB.out)
  have HCk := hid (fun (W W' : World) (k : Keeps [w5.heap.size] (((w5.alloc (.cells pZ.cells.toArray 28)).alloc (.cells pZ.cells.toArray 28)).alloc (.cells pZ.cells.toArray 28)) W) (k2 : Keeps [w5.heap.size + 1] W W') => (k2.block _ (by have := lt_of_block HC.out; have := k.size; omega) (by simp)).trans ((k.block _ (lt_of_block HC.out) (by simp; omega)).trans HC.out))
  go_wp2_with (first | (refine wpList_is rfl _ _ (exec_alloc 28 pZ.cells.toArray iPtr2 rfl) ?_) | (refine wpList_storePtAt rfl _ _ rfl w5.heap.size 0 rfl pZ.cells.toArray HA.out (by decide) knP rfl ?_; intro wa sa ka) | (refine wpList_storePtAt rfl _ _ rfl (w5.heap.size + 1) 0 (by go_simp) pZ.cells.toArray (HBk.out _ ka.out) (by decide) knQ (by go_simp; rfl) ?_; intro wb sb kb) | (refine wpList_storePtAt rfl _ _ rfl (w5.heap.size + 1 + 1) 0 (by go_simp) pZ.cells.toArray (HCk.out _ _ ka.out kb.out) (by decide) knR (by go_simp; rfl) ?_; intro wc sc kc) | (refine wpList_loadPt rfl _ rfl w5.heap.size 0 rfl knP (range_keep (range_keep (stored_range sa.out) kb.out (by simp)) kc.out (by simp; omega)) ?_) | (refine wpList_is rfl _ _ (exec_buildPut _ _ _ _ _ 1 2 0 10 knP rfl rfl rfl rfl rfl rfl) ?_) | fail)
  have RP := hid (range_keep (range_keep (stored_range sa.out) kb.out (by simp)) kc.out (by simp; omega))
  have RQ := hid (range_keep (stored_range sb.out) kc.out (by simp))
  have RR := hid (stored_range sc.out)
  have K6 := hid (K5.out.trans ((KQ.out.trans' ka.out (S := []) (fun i hi hm => by simp at hm; omega)).trans' kb.out (fun i hi hm => by simp at hm; omega) |>.trans' kc.out (fun i hi hm => by simp at hm; omega)))
  have hkk : Keeps [] w5 wc := ((KQ.out.trans' ka.out (S := []) (fun i hi hm => by simp at hm; omega)).trans' kb.out (fun i hi hm => by simp at hm; omega) |>.trans' kc.out (fun i hi hm => by simp at hm; omega))
  have B6 := hid (B5.out.later hkk)
  have HML := hid (show m < w5.heap.size from B5.out.lt)
  have HSZ := hid (show w5.heap.size + 3 ≤ wc.heap.size by have := ka.out.size; have := kb.out.size; have := kc.out.size; simp at *; omega)
  have RP2 : Hid (wc.rangeAt w5.heap.size 0 knP.cells) := hid RP.out
  clear HBk HCk HA HB HC KQ sa sb sc ka kb kc hkk B5 K5 RP
  have A1 := apply_new (w := w) K6.out B6.out (fun b hb => by simp at hb; have := HML.out; have := HSZ.out; omega) HWM.out kd1
  refine A1.mono ?_
  rintro e w7 ⟨a7, c7, rfl, o7, b7, k7, z7, q7⟩
  rw [ks1_is] at b7
  have B7 := hid b7
  have K7 := hid k7
  have HSZ7 := hid (show w5.heap.size + 3 ≤ w7.heap.size by have := HSZ.out; omega)
  have RP7 := hid (range_keep RP2.out q7 (by have := HML.out; simp; omega))
  have RQ7 := hid (range_keep RQ.out q7 (by have := HML.out; simp; omega))
  have RR7 := hid (range_keep RR.out q7 (by have := HML.out; simp; omega))
  clear A1 o7 b7 k7 z7 q7 B6 K6 RP2 RQ RR HSZ
  go_wp2_with (first | (refine wpList_loadPt rfl _ rfl (w5.heap.size + 1) 0 rfl knQ RQ7.out ?_) | (refine wpList_is rfl _ _ (exec_buildPut _ _ _ _ _ 1 2 2 150 knQ rfl rfl rfl rfl rfl rfl) ?_) | fail)
  have A1 := apply_new (w := w) K7.out B7.out (fun b hb => by simp at hb; have := HML.out; have := HSZ7.out; omega) HWM.out kd2
  refine A1.mono ?_
  rintro e w8 ⟨a8, c8, rfl, o8, b8, k8, z8, q8⟩
  rw [ks2_is] at b8
  have B8 := hid b8
  have K8 := hid k8
  have HSZ8 := hid (show w5.heap.size + 3 ≤ w8.heap.size by have := HSZ7.out; omega)
  have RP8 := hid (range_keep RP7.out q8 (by have := HML.out; simp; omega))
  have RQ8 := hid (range_keep RQ7.out q8 (by have := HML.out; simp; omega))
  have RR8 := hid (range_keep RR7.out q8 (by have := HML.out; simp; omega))
  clear A1 o8 b8 k8 z8 q8 B7 K7 RP7 RQ7 RR7 HSZ7
  go_wp2_with fail
  refine (zSize_any B8.out).mono ?_
  rintro e _ ⟨rfl, rfl⟩
  go_wp2_with fail
  refine (zCount_any B8.out).mono ?_
  rintro e _ ⟨rfl, rfl⟩
  go_wp2_with (first | (refine wpList_loadPt rfl _ rfl (w5.heap.size + 1) 0 rfl knQ RQ8.out ?_) | (refine wpList_loadPt rfl _ rfl (w5.heap.size + 1 + 1) 0 rfl knR RR8.out ?_) | (refine wpList_is rfl _ _ (exec_buildMove _ _ _ _ _ 3 2 0 knR knQ rfl rfl rfl rfl rfl rfl) ?_) | fail)
  have A1 := apply_new (w := w) K8.out B8.out (fun b hb => by simp at hb; have := HML.out; have := HSZ8.out; omega) HWM.out kd3
  refine A1.mono ?_
  rintro e w9 ⟨a9, c9, rfl, o9, b9, k9, z9, q9⟩
  rw [ks3_is] at b9
  rw [km3]
  have B9 := hid b9
  have K9 := hid k9
  have HSZ9 := hid (show w5.heap.size + 3 ≤ w9.heap.size by have := HSZ8.out; omega)
  have RP9 := hid (range_keep RP8.out q9 (by have := HML.out; simp; omega))
  have RR9 := hid (range_keep RR8.out q9 (by have := HML.out; simp; omega))
  clear A1 o9 b9 k9 z9 q9 B8 K8 RP8 RQ8 RR8 HSZ8
  go_wp2_with (first | (refine wpList_loadPt rfl _ rfl w5.heap.size 0 rfl knP RP9.out ?_) | (refine wpList_loadPt rfl _ rfl (w5.heap.size + 1 + 1) 0 rfl knR RR9.out ?_) | (refine wpList_is rfl _ _ (exec_buildMove _ _ _ _ _ 3 2 0 knR knP rfl rfl rfl rfl rfl rfl) ?_) | fail)
  have A1 := apply_new (w := w) K9.out B9.out (fun b hb => by simp at hb; have := HML.out; have := HSZ9.out; omega) HWM.out kd4
  refine A1.mono ?_
  rintro e wA ⟨aA, cA, rfl, oA, bA, kA, zA, qA⟩
  rw [ks4_is] at bA
  rw [kg4_is] at oA ⊢
  rw [km4]
  have BA := hid bA
  have OA := hid oA
  have KA := hid kA
  have HSZA := hid (show w5.heap.size + 3 ≤ wA.heap.size by have := HSZ9.out; omega)
  have RPA := hid (range_keep RP9.out qA (by have := HML.out; simp; omega))
  have RRA := hid (range_keep RR9.out qA (by have := HML.out; simp; omega))
  clear A1 oA bA kA zA qA B9 K9 RP9 RR9 HSZ9
  go_wp2_with fail
  refine wp_region_any (by kernel_rfl) (wpAny_of_held (S := KpS [] wA.heap.size wA.drew) _ _ _ _ ?_)
  change wpAnyH _ _ _ _ _ _ _ _ wA.drew
  have s0 : KpS [] wA.heap.size wA.drew wA.drew := KpS.refl _ _ _
  have cP : ∀ W1, KpS [] wA.heap.size wA.drew W1 → W1.rangeAt w5.heap.size 0 knP.cells := fun W1 h j v hv => h.cell (by rw [World.cell?_drew]; exact RPA.out j v hv) (by have := HSZA.out; omega) (by simp)
  have cR : ∀ W1, KpS [] wA.heap.size wA.drew W1 → W1.rangeAt (w5.heap.size + 1 + 1) 0 knR.cells := fun W1 h j v hv => h.cell (by rw [World.cell?_drew]; exact RRA.out j v hv) (by have := HSZA.out; omega) (by simp)
  have bD := BA.out.later ((Keeps.refl [] wA).drew)
  have oD := OA.out.later ((Keeps.refl [] wA).drew)
  refine held_take (i := 0) (v := .int .i64 150) rfl (by kernel_rfl) (by kernel_rfl) (by kernel_rfl) (fun _ _ _ h => h) rfl (fun W1 hW1 => rfl) (KpS.refl _ _ _) ?_
  simp only [Act.put, List.setIfInBounds_toArray, List.set_cons_zero, List.set_cons_succ]
  refine held_take (i := 1) (v := .bool true) rfl (by kernel_rfl) (by kernel_rfl) (by kernel_rfl) (fun _ _ _ h => h) rfl (fun W1 hW1 => by go_simp) (KpS.refl _ _ _) ?_
  simp only [Act.put, List.setIfInBounds_toArray, List.set_cons_zero, List.set_cons_succ]
  refine held_take (i := 2) (v := .bool true) rfl (by kernel_rfl) (by kernel_rfl) (by kernel_rfl) (fun _ _ _ h => h) rfl (fun W1 hW1 => rfl) (KpS.refl _ _ _) ?_
  simp only [Act.put, List.setIfInBounds_toArray, List.set_cons_zero, List.set_cons_succ]
  refine held_takeW (i := 3) (v := .int .i64 3) rfl (by kernel_rfl) (by kernel_rfl) (by kernel_rfl) (fun _ _ _ h => h) rfl (fun W1 hW1 => rfl) (KpS.refl _ _ _) ?_
  simp only [Act.put, List.setIfInBounds_toArray, List.set_cons_zero, List.set_cons_succ]
  refine held_takeW (i := 4) (v := .bool true) rfl (by kernel_rfl) (by kernel_rfl) (by kernel_rfl) (fun _ _ _ h => h) rfl (fun W1 hW1 => by go_simp) (KpS.refl _ _ _) ?_
  simp only [Act.put, List.setIfInBounds_toArray, List.set_cons_zero, List.set_cons_succ]
  refine held_take (i := 5) (v := .bool true) rfl (by kernel_rfl) (by kernel_rfl) (by kernel_rfl) (fun _ _ _ h => h) rfl (fun W1 hW1 => by go_simp) (KpS.refl _ _ _) ?_
  simp only [Act.put, List.setIfInBounds_toArray, List.set_cons_zero, List.set_cons_succ]
  refine held_take (i := 6) (v := .bool true) rfl (by kernel_rfl) (by kernel_rfl) (by kernel_rfl) (fun _ _ _ h => h) rfl (fun W1 hW1 => rfl) (KpS.refl _ _ _) ?_
  simp only [Act.put, List.setIfInBounds_toArray, List.set_cons_zero, List.set_cons_succ]
  refine held_takeW (i := 7) (v := .pointer (some ⟨m, 0, none⟩)) rfl (by kernel_rfl) (by kernel_rfl) (by kernel_rfl) (fun _ _ _ h => h) rfl (fun W1 hW1 => rfl) (KpS.refl _ _ _) ?_
  simp only [Act.put, List.setIfInBounds_toArray, List.set_cons_zero, List.set_cons_succ]
  refine held_takeW (i := 9) (v := ptV pZ) rfl (by kernel_rfl) (by kernel_rfl) (by kernel_rfl) (fun _ _ _ h => h) rfl (fun W1 hW1 => exec_buildPtZ rfl) (KpS.refl _ _ _) ?_
  simp only [Act.put, List.setIfInBounds_toArray, List.set_cons_zero, List.set_cons_succ]
  refine held_doW (i := 8) (by kernel_rfl) rfl rfl (wp_enter (f := 16) (args := #[.pointer (some ⟨m, 0, none⟩), .int .i64 1]) (by go_simp) (zAt_any bD 1) ?_)
  rintro e wB ⟨rfl, kB⟩
  have sB : KpS [] wA.heap.size wA.drew wB := s0.keeps kB s0.size (by simp)
  refine ⟨_, rfl, sB, ?_⟩
  simp only [Act.put, List.setIfInBounds_toArray, List.set_cons_zero, List.set_cons_succ]
  refine held_takeW (i := 10) (v := .bool true) rfl (by kernel_rfl) (by kernel_rfl) (by kernel_rfl) (fun _ _ _ h => h) rfl (fun W1 hW1 => (exec_eqPts _ _ _ (atB ks4.L 1) pZ rfl rfl rfl).trans (by rw [show eqP (atB ks4.L 1) pZ = true by decide])) (sB) ?_
  simp only [Act.put, List.setIfInBounds_toArray, List.set_cons_zero, List.set_cons_succ]
  refine held_take (i := 11) (v := .bool true) rfl (by kernel_rfl) (by kernel_rfl) (by kernel_rfl) (fun _ _ _ h => h) rfl (fun W1 hW1 => by go_simp) (sB) ?_
  simp only [Act.put, List.setIfInBounds_toArray, List.set_cons_zero, List.set_cons_succ]
  refine held_take (i := 12) (v := .bool true) rfl (by kernel_rfl) (by kernel_rfl) (by kernel_rfl) (fun _ _ _ h => h) rfl (fun W1 hW1 => rfl) (sB) ?_
  simp only [Act.put, List.setIfInBounds_toArray, List.set_cons_zero, List.set_cons_succ]
  refine held_takeW (i := 13) (v := .bool false) rfl (by kernel_rfl) (by kernel_rfl) (by kernel_rfl) (fun _ _ _ h => h) rfl (fun W1 hW1 => rfl) (sB) ?_
  simp only [Act.put, List.setIfInBounds_toArray, List.set_cons_zero, List.set_cons_succ]
  refine held_takeW (i := 14) (v := .bool true) rfl (by kernel_rfl) (by kernel_rfl) (by kernel_rfl) (fun _ _ _ h => h) rfl (fun W1 hW1 => by go_simp) (sB) ?_
  simp only [Act.put, List.setIfInBounds_toArray, List.set_cons_zero, List.set_cons_succ]
  refine held_take (i := 15) (v := .bool true) rfl (by kernel_rfl) (by kernel_rfl) (by kernel_rfl) (fun _ _ _ h => h) rfl (fun W1 hW1 => by go_simp) (sB) ?_
  simp only [Act.put, List.setIfInBounds_toArray, List.set_cons_zero, List.set_cons_succ]
  refine held_take (i := 16) (v := .bool true) rfl (by kernel_rfl) (by kernel_rfl) (by kernel_rfl) (fun _ _ _ h => h) rfl (fun W1 hW1 => rfl) (sB) ?_
  simp only [Act.put, List.setIfInBounds_toArray, List.set_cons_zero, List.set_cons_succ]
  refine held_takeW (i := 17) (v := .bool true) rfl (by kernel_rfl) (by kernel_rfl) (by kernel_rfl) (fun _ _ _ h => h) rfl (fun W1 hW1 => rfl) (sB) ?_
  simp only [Act.put, List.setIfInBounds_toArray, List.set_cons_zero, List.set_cons_succ]
  refine held_take (i := 18) (v := .bool true) rfl (by kernel_rfl) (by kernel_rfl) (by kernel_rfl) (fun _ _ _ h => h) rfl (fun W1 hW1 => by go_simp) (sB) ?_
  simp only [Act.put, List.setIfInBounds_toArray, List.set_cons_zero, List.set_cons_succ]
  refine held_take (i := 19) (v := .bool true) rfl (by kernel_rfl) (by kernel_rfl) (by kernel_rfl) (fun _ _ _ h => h) rfl (fun W1 hW1 => rfl) (sB) ?_
  simp only [Act.put, List.setIfInBounds_toArray, List.set_cons_zero, List.set_cons_succ]
  refine held_takeW (i := 20) (v := .slice aA 1 cA) rfl (by kernel_rfl) (by kernel_rfl) (by kernel_rfl) (fun _ _ _ h => h) rfl (fun W1 hW1 => rfl) (sB) ?_
  simp only [Act.put, List.setIfInBounds_toArray, List.set_cons_zero, List.set_cons_succ]
  refine held_takeW (i := 21) (v := ptV knP) rfl (by kernel_rfl) (by kernel_rfl) (by kernel_rfl) (fun _ _ _ h => h) rfl (fun W1 hW1 => exec_load _ _ _ _ rfl rfl (loadPt_run W1 w5.heap.size 0 knP (cP W1 hW1))) (sB) ?_
  simp only [Act.put, List.setIfInBounds_toArray, List.set_cons_zero, List.set_cons_succ]
  refine held_doW (i := 22) (by kernel_rfl) rfl rfl (wp_value (exec_onePt _ knP rfl rfl) ?_)
  have kC : Keeps [] wB (wB.alloc (.cells knP.cells.toArray 28)) := (Keeps.refl [] wB).alloc _
  have sC : KpS [] wA.heap.size wA.drew (wB.alloc (.cells knP.cells.toArray 28)) := sB.keeps kC sB.size (by simp)
  refine ⟨sC, ?_⟩
  simp only [Act.put, List.setIfInBounds_toArray, List.set_cons_zero, List.set_cons_succ]
  have onP := one_pts wB [] (by simp) knP
  refine held_doW (i := 23) (by kernel_rfl) rfl rfl (wp_enter (f := 17) (args := #[.slice aA 1 cA, .slice (some ⟨wB.heap.size, 0, none⟩) 1 1]) (by go_simp) (lPtrs_any _ [m] [] _ _ [knP] [knP] ((oD.later (kB.trans kC)).at) onP (by decide) (by decide)) ?_)
  rintro e wD ⟨rfl, kD⟩
  rw [show eqL [knP] [knP] = true by decide]
  have sD : KpS [] wA.heap.size wA.drew wD := sC.keeps kD sC.size (by simp)
  refine ⟨_, rfl, sD, ?_⟩
  simp only [Act.put, List.setIfInBounds_toArray, List.set_cons_zero, List.set_cons_succ]
  refine held_take (i := 24) (v := .bool true) rfl (by kernel_rfl) (by kernel_rfl) (by kernel_rfl) (fun _ _ _ h => h) rfl (fun W1 hW1 => by go_simp) (sD) ?_
  simp only [Act.put, List.setIfInBounds_toArray, List.set_cons_zero, List.set_cons_succ]
  refine held_take (i := 25) (v := .bool true) rfl (by kernel_rfl) (by kernel_rfl) (by kernel_rfl) (fun _ _ _ h => h) rfl (fun W1 hW1 => rfl) (sD) ?_
  simp only [Act.put, List.setIfInBounds_toArray, List.set_cons_zero, List.set_cons_succ]
  refine held_takeW (i := 26) (v := .pointer (some ⟨m, 0, none⟩)) rfl (by kernel_rfl) (by kernel_rfl) (by kernel_rfl) (fun _ _ _ h => h) rfl (fun W1 hW1 => rfl) (sD) ?_
  simp only [Act.put, List.setIfInBounds_toArray, List.set_cons_zero, List.set_cons_succ]
  refine held_takeW (i := 28) (v := ptV knR) rfl (by kernel_rfl) (by kernel_rfl) (by kernel_rfl) (fun _ _ _ h => h) rfl (fun W1 hW1 => exec_load _ _ _ _ rfl rfl (loadPt_run W1 (w5.heap.size + 1 + 1) 0 knR (cR W1 hW1))) (sD) ?_
  simp only [Act.put, List.setIfInBounds_toArray, List.set_cons_zero, List.set_cons_succ]
  refine held_doW (i := 27) (by kernel_rfl) rfl rfl (wp_enter (f := 16) (args := #[.pointer (some ⟨m, 0, none⟩), .int .i64 0]) (by go_simp) (zAt_any (bD.later ((kB.trans kC).trans kD)) 0) ?_)
  rintro e wE ⟨rfl, kE⟩
  have sE : KpS [] wA.heap.size wA.drew wE := sD.keeps kE sD.size (by simp)
  refine ⟨_, rfl, sE, ?_⟩
  simp only [Act.put, List.setIfInBounds_toArray, List.set_cons_zero, List.set_cons_succ]
  refine held_takeW (i := 29) (v := .bool true) rfl (by kernel_rfl) (by kernel_rfl) (by kernel_rfl) (fun _ _ _ h => h) rfl (fun W1 hW1 => (exec_eqPts _ _ _ (atB ks4.L 0) knR rfl rfl rfl).trans (by rw [show eqP (atB ks4.L 0) knR = true by decide])) (sE) ?_
  simp only [Act.put, List.setIfInBounds_toArray, List.set_cons_zero, List.set_cons_succ]
  refine held_take (i := 30) (v := .bool true) rfl (by kernel_rfl) (by kernel_rfl) (by kernel_rfl) (fun _ _ _ h => h) rfl (fun W1 hW1 => by go_simp) (sE) ?_
  simp only [Act.put, List.setIfInBounds_toArray, List.set_cons_zero, List.set_cons_succ]
  refine held_take (i := 31) (v := .bool true) rfl (by kernel_rfl) (by kernel_rfl) (by kernel_rfl) (fun _ _ _ h => h) rfl (fun W1 hW1 => rfl) (sE) ?_
  simp only [Act.put, List.setIfInBounds_toArray, List.set_cons_zero, List.set_cons_succ]
  refine wpAnyH_done (by kernel_rfl) ?_ _
  have KF := hid (KA.out.drew.trans ((kB.trans kC).trans (kD.trans kE)))
  clear cP cR s0 sB sC sD sE kB kC kD kE bD oD onP
  go_wp2_with fail
  go_ret
  exact ⟨rfl, KF.out⟩
end Go.Proofs.Ytdfhoanilbfkiaa
