/- blocks: the reference's GetPtr. -/
import Derived.Test.YtoglcohdanpciaaBkEa
import Derived.Test.YtoglcohdanpciaaJS
namespace Go.Proofs.Ytoglcohdanpciaa
open Go.RowKit Go.Shelf
set_option maxRecDepth 100000
set_option linter.unusedSimpArgs false

set_option maxHeartbeats 12800000 in
theorem rGetPtr_any (w : World) (B p : Nat) (st : PSt) (h : REyL w B p st) (hB : B ≤ w.heap.size) :
    Calls Try.prog 153 #[.pointer (some ⟨p, 0, none⟩)] w fun e w' => e = .returned (ptV (getP st).1) ∧ REyL w' B p (getP st).2 ∧ Keeps [p] w w' := by
  have HB := hid hB
  have hpw := h.lt
  have k1 : Keeps [] w (w.alloc (.cells pZ.cells.toArray 147)) := (Keeps.refl [] w).alloc _
  have k2 : Keeps [] w ((w.alloc (.cells pZ.cells.toArray 147)).alloc (.cells pZ.cells.toArray 147)) := k1.alloc _
  have E0 := hid (h.more k2)
  have D0 : Hid (((w.alloc (.cells pZ.cells.toArray 147)).alloc (.cells pZ.cells.toArray 147)).heap[w.heap.size]? = some (.cells pZ.cells.toArray 147 (0, 0))) := hid (((Keeps.refl [] (w.alloc (.cells pZ.cells.toArray 147))).alloc _).block _ (by simp) (by simp) |>.trans (heap_alloc_new w _))
  have b3 := heap_alloc_new (w.alloc (.cells pZ.cells.toArray 147)) (.cells pZ.cells.toArray 147)
  rw [World.size_alloc] at b3
  have C3 := hid b3
  have K0 := hid k2
  have HP := hid hpw
  have HS0 := hid (show w.heap.size + 1 < ((w.alloc (.cells pZ.cells.toArray 147)).alloc (.cells pZ.cells.toArray 147)).heap.size by simp)
  obtain ⟨x1, s1, e1⟩ : ∃ x s, numE 1 st = (x, s) := ⟨_, _, rfl⟩
  obtain ⟨x2, s2, e2⟩ : ∃ x s, numE 3 s1 = (x, s) := ⟨_, _, rfl⟩
  obtain ⟨x3, s3, e3⟩ : ∃ x s, numE 4 s2 = (x, s) := ⟨_, _, rfl⟩
  obtain ⟨x4, s4, e4⟩ : ∃ x s, numE 2 s3 = (x, s) := ⟨_, _, rfl⟩
  obtain ⟨x5, s5, e5⟩ : ∃ x s, numE 1 s4 = (x, s) := ⟨_, _, rfl⟩
  have EG : Hid (getP st = (⟨x1, x2, x3, x4, x5⟩, s5)) := hid (by unfold getP; rw [e1]; simp only; rw [e2]; simp only; rw [e3]; simp only; rw [e4]; simp only; rw [e5])
  have N1 := hid e1
  have N2 := hid e2
  have N3 := hid e3
  have N4 := hid e4
  have N5 := hid e5
  clear h hB k1 k2 b3 hpw e1 e2 e3 e4 e5
  go_enter Try.func153, Try.ntmps153
  go_wp2_with (first | (refine wpList_is rfl _ _ (exec_alloc 147 pZ.cells.toArray iPtr2 rfl) ?_) | (refine wpList_is rfl _ _ (exec_buildPtZ rfl) ?_) | (refine wpList_noval rfl _ (exec_storeNew 147 _ _ rfl (w.alloc (.cells pZ.cells.toArray 147)) pZ.cells.toArray pZ.cells.toArray rfl rfl rfl iPtr2 rfl (cells_one pZ)) ?_) | fail)
  have A0 := E0.out.num 1
  rw [N1.out] at A0
  refine A0.mono ?_
  rintro e u0 ⟨rfl, ey, kk⟩
  have F0 := hid ((kk.block (w.heap.size + 1) (by have := HS0.out; omega) (by have := HP.out; simp; omega)).trans C3.out)
  have G0 := hid ((kk.block w.heap.size (by have := HS0.out; omega) (by have := HP.out; simp; omega)).trans D0.out)
  have T0 := hid ey
  have KU0 := hid ((K0.out.mono (S' := [p]) (by simp)).trans kk)
  have HU0 := hid (show w.heap.size + 1 < u0.heap.size by have := HS0.out; have := kk.size; omega)
  obtain ⟨cc, ff⟩ := five_cells F0.out 0
  change u0.cell? ⟨w.heap.size + 1, 0, none⟩ = some (.int .i64 0) at cc
  clear A0 ey kk
  have J1 := hid (set_five (i := 0) F0.out (.int .i64 x1))
  have sk1 : Keeps [w.heap.size + 1] u0 (u0.setCell ⟨w.heap.size + 1, 0, none⟩ (.int .i64 x1)) := set_keep
  have D1 := hid ((sk1.block w.heap.size (by have := HU0.out; omega) (by simp)).trans G0.out)
  have E1 := hid (T0.out.later sk1 (by have := HB.out; omega) (by have := HP.out; omega))
  have K1 := hid (KU0.out.trans' sk1 (fun i hi hm => by simp at hm; omega))
  have HS1 := hid (Nat.lt_of_lt_of_le HU0.out sk1.size)
  clear sk1
  go_wp2_with fail
  have A1 := E1.out.num 3
  rw [N2.out] at A1
  refine A1.mono ?_
  rintro e u1 ⟨rfl, ey, kk⟩
  have F1 := hid ((kk.block (w.heap.size + 1) (by have := HS1.out; omega) (by have := HP.out; simp; omega)).trans J1.out)
  have G1 := hid ((kk.block w.heap.size (by have := HS1.out; omega) (by have := HP.out; simp; omega)).trans D1.out)
  have T1 := hid ey
  have KU1 := hid ((K1.out.mono (S' := [p]) (by simp)).trans kk)
  have HU1 := hid (show w.heap.size + 1 < u1.heap.size by have := HS1.out; have := kk.size; omega)
  obtain ⟨cc, ff⟩ := five_cells F1.out 1
  change u1.cell? ⟨w.heap.size + 1, 1, none⟩ = some (.int .i64 0) at cc
  clear A1 ey kk
  have D1 := hid (set_five (i := 1) F1.out (.int .i64 x2))
  have sk2 : Keeps [w.heap.size + 1] u1 (u1.setCell ⟨w.heap.size + 1, 1, none⟩ (.int .i64 x2)) := set_keep
  have D2 := hid ((sk2.block w.heap.size (by have := HU1.out; omega) (by simp)).trans G1.out)
  have E2 := hid (T1.out.later sk2 (by have := HB.out; omega) (by have := HP.out; omega))
  have K2 := hid (KU1.out.trans' sk2 (fun i hi hm => by simp at hm; omega))
  have HS2 := hid (Nat.lt_of_lt_of_le HU1.out sk2.size)
  clear sk2
  go_wp2_with fail
  have A2 := E2.out.num 4
  rw [N3.out] at A2
  refine A2.mono ?_
  rintro e u2 ⟨rfl, ey, kk⟩
  have F2 := hid ((kk.block (w.heap.size + 1) (by have := HS2.out; omega) (by have := HP.out; simp; omega)).trans D1.out)
  have G2 := hid ((kk.block w.heap.size (by have := HS2.out; omega) (by have := HP.out; simp; omega)).trans D2.out)
  have T2 := hid ey
  have KU2 := hid ((K2.out.mono (S' := [p]) (by simp)).trans kk)
  have HU2 := hid (show w.heap.size + 1 < u2.heap.size by have := HS2.out; have := kk.size; omega)
  obtain ⟨cc, ff⟩ := five_cells F2.out 2
  change u2.cell? ⟨w.heap.size + 1, 2, none⟩ = some (.int .i64 0) at cc
  clear A2 ey kk
  have J3 := hid (set_five (i := 2) F2.out (.int .i64 x3))
  have sk3 : Keeps [w.heap.size + 1] u2 (u2.setCell ⟨w.heap.size + 1, 2, none⟩ (.int .i64 x3)) := set_keep
  have D3 := hid ((sk3.block w.heap.size (by have := HU2.out; omega) (by simp)).trans G2.out)
  have E3 := hid (T2.out.later sk3 (by have := HB.out; omega) (by have := HP.out; omega))
  have K3 := hid (KU2.out.trans' sk3 (fun i hi hm => by simp at hm; omega))
  have HS3 := hid (Nat.lt_of_lt_of_le HU2.out sk3.size)
  clear sk3
  go_wp2_with fail
  have A3 := E3.out.num 2
  rw [N4.out] at A3
  refine A3.mono ?_
  rintro e u3 ⟨rfl, ey, kk⟩
  have F3 := hid ((kk.block (w.heap.size + 1) (by have := HS3.out; omega) (by have := HP.out; simp; omega)).trans J3.out)
  have G3 := hid ((kk.block w.heap.size (by have := HS3.out; omega) (by have := HP.out; simp; omega)).trans D3.out)
  have T3 := hid ey
  have KU3 := hid ((K3.out.mono (S' := [p]) (by simp)).trans kk)
  have HU3 := hid (show w.heap.size + 1 < u3.heap.size by have := HS3.out; have := kk.size; omega)
  obtain ⟨cc, ff⟩ := five_cells F3.out 3
  change u3.cell? ⟨w.heap.size + 1, 3, none⟩ = some (.int .i64 0) at cc
  clear A3 ey kk
  have J4 := hid (set_five (i := 3) F3.out (.int .i64 x4))
  have sk4 : Keeps [w.heap.size + 1] u3 (u3.setCell ⟨w.heap.size + 1, 3, none⟩ (.int .i64 x4)) := set_keep
  have D4 := hid ((sk4.block w.heap.size (by have := HU3.out; omega) (by simp)).trans G3.out)
  have E4 := hid (T3.out.later sk4 (by have := HB.out; omega) (by have := HP.out; omega))
  have K4 := hid (KU3.out.trans' sk4 (fun i hi hm => by simp at hm; omega))
  have HS4 := hid (Nat.lt_of_lt_of_le HU3.out sk4.size)
  clear sk4
  go_wp2_with fail
  have A4 := E4.out.num 1
  rw [N5.out] at A4
  refine A4.mono ?_
  rintro e u4 ⟨rfl, ey, kk⟩
  have F4 := hid ((kk.block (w.heap.size + 1) (by have := HS4.out; omega) (by have := HP.out; simp; omega)).trans J4.out)
  have G4 := hid ((kk.block w.heap.size (by have := HS4.out; omega) (by have := HP.out; simp; omega)).trans D4.out)
  have T4 := hid ey
  have KU4 := hid ((K4.out.mono (S' := [p]) (by simp)).trans kk)
  have HU4 := hid (show w.heap.size + 1 < u4.heap.size by have := HS4.out; have := kk.size; omega)
  obtain ⟨cc, ff⟩ := five_cells F4.out 4
  change u4.cell? ⟨w.heap.size + 1, 4, none⟩ = some (.int .i64 0) at cc
  clear A4 ey kk
  have J5 := hid (set_five (i := 4) F4.out (.int .i64 x5))
  have sk5 : Keeps [w.heap.size + 1] u4 (u4.setCell ⟨w.heap.size + 1, 4, none⟩ (.int .i64 x5)) := set_keep
  have D5 := hid ((sk5.block w.heap.size (by have := HU4.out; omega) (by simp)).trans G4.out)
  have E5 := hid (T4.out.later sk5 (by have := HB.out; omega) (by have := HP.out; omega))
  have K5 := hid (KU4.out.trans' sk5 (fun i hi hm => by simp at hm; omega))
  have HS5 := hid (Nat.lt_of_lt_of_le HU4.out sk5.size)
  clear sk5
  have HE5 : ∃ u5, u5 = u4.setCell ⟨w.heap.size + 1, 4, none⟩ (.int .i64 x5) := ⟨_, rfl⟩
  obtain ⟨u5, hu5⟩ := HE5
  rw [← hu5] at J5 D5 E5 K5 HS5
  have R3 : Hid (u5.rangeAt (w.heap.size + 1) 0 (⟨x1, x2, x3, x4, x5⟩ : Pt).cells) := hid (range_of (x := ⟨x1, x2, x3, x4, x5⟩) J5.out)
  obtain ⟨r1, r2⟩ := setRow_keepsP (cs := (pZ.cells.toArray.toList.take 0 ++ (⟨x1, x2, x3, x4, x5⟩ : Pt).cells ++ pZ.cells.toArray.toList.drop (0 + 5)).toArray) D5.out
  have R1 := hid r1
  have R2 := hid r2
  clear r1 r2
  have U5 := hid hu5
  clear hu5
  go_wp2_with (first | (rw [← U5.out]; refine wpList_isW rfl _ _ (exec_load _ _ _ _ rfl rfl (loadPt_run _ (w.heap.size + 1) 0 ⟨x1, x2, x3, x4, x5⟩ R3.out)) ?_) | (refine wpList_noval rfl _ (exec_storePtAt _ _ rfl w.heap.size 0 rfl pZ.cells.toArray D5.out (by simp [Pt.cells]) ⟨x1, x2, x3, x4, x5⟩ rfl) ?_) | fail)
  refine bodyPost_ret (pt_ret rfl rfl (range_of (x := ⟨x1, x2, x3, x4, x5⟩) (by have := R1.out; rw [one_row] at this; exact this))) rfl ?_
  refine ⟨by rw [EG.out], ?_, K5.out.trans' R2.out (fun i hi hm => by simp at hm; omega)⟩
  rw [EG.out]
  exact E5.out.later R2.out HB.out (by have := HP.out; omega)
end Go.Proofs.Ytoglcohdanpciaa
