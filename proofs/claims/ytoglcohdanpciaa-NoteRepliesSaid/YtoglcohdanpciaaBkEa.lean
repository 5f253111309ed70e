/- blocks: the code's GetPtr. -/
import Derived.Test.YtoglcohdanpciaaBkQ
import Derived.Test.YtoglcohdanpciaaJB2
import Derived.Test.YtoglcohdanpciaaJB1
import Derived.Test.YtoglcohdanpciaaJE
namespace Go.Proofs.Ytoglcohdanpciaa
open Go.RowKit Go.Shelf
set_option maxRecDepth 100000
set_option linter.unusedSimpArgs false

/-- What a pointer's read answers. -/
def getP (st : PSt) : Pt × PSt :=
  let a := numE 1 st; let b := numE 3 a.2; let c := numE 4 b.2; let d := numE 2 c.2; let f := numE 1 d.2
  (⟨a.1, b.1, c.1, d.1, f.1⟩, f.2)
theorem range_of {w : World} {b : Nat} {x : Pt} {T : TypeId} (h : w.heap[b]? = some (.cells x.cells.toArray T (0, 0))) : w.rangeAt b 0 x.cells := fun j u hu => by
  rw [Nat.zero_add, cell_of_row _ _ _ _ _ _ h, ← Array.getElem?_toList]
  simpa using hu
theorem one_row (x : Pt) : (pZ.cells.toArray.toList.take 0 ++ x.cells ++ pZ.cells.toArray.toList.drop (0 + 5)).toArray = x.cells.toArray := by simp [Pt.cells]
/-- What GetPtr answers. -/
def getA (st : PSt) : Pt := if (getP st).2.2 = 0 then (getP st).1 else pZ
set_option maxHeartbeats 12800000 in
theorem zGetPtr_any {w0 : World} (w : World) (B p : Nat) (v : Value) (st : PSt) (h : EyL w0 w B p v st) (hw0 : w0.heap.size ≤ w.heap.size) :
    Calls Try.prog 199 #[.pointer (some ⟨p, 0, none⟩)] w fun e w' => e = .returned (ptV (getA st)) ∧ EyL w0 w' B p v (getP st).2 ∧ Keeps [p] w w' := by
  have HW0 := hid hw0
  have hpw := h.lt
  have k1 : Keeps [] w (w.alloc (.cells pZ.cells.toArray 147)) := (Keeps.refl [] w).alloc _
  have k2 : Keeps [] w ((w.alloc (.cells pZ.cells.toArray 147)).alloc (.cells pZ.cells.toArray 147)) := k1.alloc _
  have E0 := hid (h.more k2)
  have D0 : Hid (((w.alloc (.cells pZ.cells.toArray 147)).alloc (.cells pZ.cells.toArray 147)).heap[w.heap.size]? = some (.cells pZ.cells.toArray 147 (0, 0))) := hid (((Keeps.refl [] (w.alloc (.cells pZ.cells.toArray 147))).alloc _).block _ (by simp) (by simp) |>.trans (heap_alloc_new w _))
  have b3 := heap_alloc_new (w.alloc (.cells pZ.cells.toArray 147)) (.cells pZ.cells.toArray 147)
  rw [World.size_alloc] at b3
  have C3 := hid b3
  have K0 := hid k2
  have HP := hid hpw
  have HS0 := hid (show w.heap.size + 1 < ((w.alloc (.cells pZ.cells.toArray 147)).alloc (.cells pZ.cells.toArray 147)).heap.size by simp)
  obtain ⟨x1, s1, e1⟩ : ∃ x s, numE 1 st = (x, s) := ⟨_, _, rfl⟩
  obtain ⟨x2, s2, e2⟩ : ∃ x s, numE 3 s1 = (x, s) := ⟨_, _, rfl⟩
  obtain ⟨x3, s3, e3⟩ : ∃ x s, numE 4 s2 = (x, s) := ⟨_, _, rfl⟩
  obtain ⟨x4, s4, e4⟩ : ∃ x s, numE 2 s3 = (x, s) := ⟨_, _, rfl⟩
  obtain ⟨x5, s5, e5⟩ : ∃ x s, numE 1 s4 = (x, s) := ⟨_, _, rfl⟩
  have EG : Hid (getP st = (⟨x1, x2, x3, x4, x5⟩, s5)) := hid (by unfold getP; rw [e1]; simp only; rw [e2]; simp only; rw [e3]; simp only; rw [e4]; simp only; rw [e5])
  have N1 := hid e1
  have N2 := hid e2
  have N3 := hid e3
  have N4 := hid e4
  have N5 := hid e5
  clear h hw0 k1 k2 b3 hpw e1 e2 e3 e4 e5
  go_enter Try.func199, Try.ntmps199
  go_wp2_with (first | (refine wpList_is rfl _ _ (exec_alloc 147 pZ.cells.toArray iPtr2 rfl) ?_) | fail)
  have A0 := E0.out.num 1
  rw [N1.out] at A0
  refine A0.mono ?_
  rintro e u0 ⟨rfl, ey, kk⟩
  have F0 := hid ((kk.block (w.heap.size + 1) (by have := HS0.out; omega) (by have := HP.out; simp; omega)).trans C3.out)
  have G0 := hid ((kk.block w.heap.size (by have := HS0.out; omega) (by have := HP.out; simp; omega)).trans D0.out)
  have T0 := hid ey
  have KU0 := hid ((K0.out.mono (S' := [p]) (by simp)).trans kk)
  have HU0 := hid (show w.heap.size + 1 < u0.heap.size by have := HS0.out; have := kk.size; omega)
  obtain ⟨cc, ff⟩ := five_cells F0.out 0
  change u0.cell? ⟨w.heap.size + 1, 0, none⟩ = some (.int .i64 0) at cc
  clear A0 ey kk
  have J1 := hid (set_five (i := 0) F0.out (.int .i64 x1))
  have sk1 : Keeps [w.heap.size + 1] u0 (u0.setCell ⟨w.heap.size + 1, 0, none⟩ (.int .i64 x1)) := set_keep
  have D1 := hid ((sk1.block w.heap.size (by have := HU0.out; omega) (by simp)).trans G0.out)
  have E1 := hid (T0.out.later sk1 (by have := HW0.out; omega) (by have := HP.out; omega))
  have K1 := hid (KU0.out.trans' sk1 (fun i hi hm => by simp at hm; omega))
  have HS1 := hid (Nat.lt_of_lt_of_le HU0.out sk1.size)
  clear sk1
  go_wp2_with fail
  have A1 := E1.out.num 3
  rw [N2.out] at A1
  refine A1.mono ?_
  rintro e u1 ⟨rfl, ey, kk⟩
  have F1 := hid ((kk.block (w.heap.size + 1) (by have := HS1.out; omega) (by have := HP.out; simp; omega)).trans J1.out)
  have G1 := hid ((kk.block w.heap.size (by have := HS1.out; omega) (by have := HP.out; simp; omega)).trans D1.out)
  have T1 := hid ey
  have KU1 := hid ((K1.out.mono (S' := [p]) (by simp)).trans kk)
  have HU1 := hid (show w.heap.size + 1 < u1.heap.size by have := HS1.out; have := kk.size; omega)
  obtain ⟨cc, ff⟩ := five_cells F1.out 1
  change u1.cell? ⟨w.heap.size + 1, 1, none⟩ = some (.int .i64 0) at cc
  clear A1 ey kk
  have D1 := hid (set_five (i := 1) F1.out (.int .i64 x2))
  have sk2 : Keeps [w.heap.size + 1] u1 (u1.setCell ⟨w.heap.size + 1, 1, none⟩ (.int .i64 x2)) := set_keep
  have D2 := hid ((sk2.block w.heap.size (by have := HU1.out; omega) (by simp)).trans G1.out)
  have E2 := hid (T1.out.later sk2 (by have := HW0.out; omega) (by have := HP.out; omega))
  have K2 := hid (KU1.out.trans' sk2 (fun i hi hm => by simp at hm; omega))
  have HS2 := hid (Nat.lt_of_lt_of_le HU1.out sk2.size)
  clear sk2
  go_wp2_with fail
  have A2 := E2.out.num 4
  rw [N3.out] at A2
  refine A2.mono ?_
  rintro e u2 ⟨rfl, ey, kk⟩
  have F2 := hid ((kk.block (w.heap.size + 1) (by have := HS2.out; omega) (by have := HP.out; simp; omega)).trans D1.out)
  have G2 := hid ((kk.block w.heap.size (by have := HS2.out; omega) (by have := HP.out; simp; omega)).trans D2.out)
  have T2 := hid ey
  have KU2 := hid ((K2.out.mono (S' := [p]) (by simp)).trans kk)
  have HU2 := hid (show w.heap.size + 1 < u2.heap.size by have := HS2.out; have := kk.size; omega)
  obtain ⟨cc, ff⟩ := five_cells F2.out 2
  change u2.cell? ⟨w.heap.size + 1, 2, none⟩ = some (.int .i64 0) at cc
  clear A2 ey kk
  have J3 := hid (set_five (i := 2) F2.out (.int .i64 x3))
  have sk3 : Keeps [w.heap.size + 1] u2 (u2.setCell ⟨w.heap.size + 1, 2, none⟩ (.int .i64 x3)) := set_keep
  have D3 := hid ((sk3.block w.heap.size (by have := HU2.out; omega) (by simp)).trans G2.out)
  have E3 := hid (T2.out.later sk3 (by have := HW0.out; omega) (by have := HP.out; omega))
  have K3 := hid (KU2.out.trans' sk3 (fun i hi hm => by simp at hm; omega))
  have HS3 := hid (Nat.lt_of_lt_of_le HU2.out sk3.size)
  clear sk3
  go_wp2_with fail
  have A3 := E3.out.num 2
  rw [N4.out] at A3
  refine A3.mono ?_
  rintro e u3 ⟨rfl, ey, kk⟩
  have F3 := hid ((kk.block (w.heap.size + 1) (by have := HS3.out; omega) (by have := HP.out; simp; omega)).trans J3.out)
  have G3 := hid ((kk.block w.heap.size (by have := HS3.out; omega) (by have := HP.out; simp; omega)).trans D3.out)
  have T3 := hid ey
  have KU3 := hid ((K3.out.mono (S' := [p]) (by simp)).trans kk)
  have HU3 := hid (show w.heap.size + 1 < u3.heap.size by have := HS3.out; have := kk.size; omega)
  obtain ⟨cc, ff⟩ := five_cells F3.out 3
  change u3.cell? ⟨w.heap.size + 1, 3, none⟩ = some (.int .i64 0) at cc
  clear A3 ey kk
  have J4 := hid (set_five (i := 3) F3.out (.int .i64 x4))
  have sk4 : Keeps [w.heap.size + 1] u3 (u3.setCell ⟨w.heap.size + 1, 3, none⟩ (.int .i64 x4)) := set_keep
  have D4 := hid ((sk4.block w.heap.size (by have := HU3.out; omega) (by simp)).trans G3.out)
  have E4 := hid (T3.out.later sk4 (by have := HW0.out; omega) (by have := HP.out; omega))
  have K4 := hid (KU3.out.trans' sk4 (fun i hi hm => by simp at hm; omega))
  have HS4 := hid (Nat.lt_of_lt_of_le HU3.out sk4.size)
  clear sk4
  go_wp2_with fail
  have A4 := E4.out.num 1
  rw [N5.out] at A4
  refine A4.mono ?_
  rintro e u4 ⟨rfl, ey, kk⟩
  have F4 := hid ((kk.block (w.heap.size + 1) (by have := HS4.out; omega) (by have := HP.out; simp; omega)).trans J4.out)
  have G4 := hid ((kk.block w.heap.size (by have := HS4.out; omega) (by have := HP.out; simp; omega)).trans D4.out)
  have T4 := hid ey
  have KU4 := hid ((K4.out.mono (S' := [p]) (by simp)).trans kk)
  have HU4 := hid (show w.heap.size + 1 < u4.heap.size by have := HS4.out; have := kk.size; omega)
  obtain ⟨cc, ff⟩ := five_cells F4.out 4
  change u4.cell? ⟨w.heap.size + 1, 4, none⟩ = some (.int .i64 0) at cc
  clear A4 ey kk
  have J5 := hid (set_five (i := 4) F4.out (.int .i64 x5))
  have sk5 : Keeps [w.heap.size + 1] u4 (u4.setCell ⟨w.heap.size + 1, 4, none⟩ (.int .i64 x5)) := set_keep
  have D5 := hid ((sk5.block w.heap.size (by have := HU4.out; omega) (by simp)).trans G4.out)
  have E5 := hid (T4.out.later sk5 (by have := HW0.out; omega) (by have := HP.out; omega))
  have K5 := hid (KU4.out.trans' sk5 (fun i hi hm => by simp at hm; omega))
  have HS5 := hid (Nat.lt_of_lt_of_le HU4.out sk5.size)
  clear sk5
  go_wp2_with fail
  refine (E5.out.fail).mono ?_
  rintro e _ ⟨rfl, rfl⟩
  generalize u4.setCell ⟨w.heap.size + 1, 4, none⟩ (.int .i64 x5) = u5 at J5 D5 E5 K5 HS5 ⊢
  have R3 : Hid (u5.rangeAt (w.heap.size + 1) 0 (⟨x1, x2, x3, x4, x5⟩ : Pt).cells) := hid (range_of (x := ⟨x1, x2, x3, x4, x5⟩) J5.out)
  by_cases hz : s5.2 = 0
  · have HZ := hid hz
    have hzb : (s5.2 == 0) = true := by simpa using hz
    clear hz
    obtain ⟨r1, r2⟩ := setRow_keepsP (cs := (pZ.cells.toArray.toList.take 0 ++ (⟨x1, x2, x3, x4, x5⟩ : Pt).cells ++ pZ.cells.toArray.toList.drop (0 + 5)).toArray) D5.out
    have R1 := hid r1
    have R2 := hid r2
    clear r1 r2
    go_wp2_with (first | (refine wpList_isW rfl _ _ (exec_load _ _ _ _ rfl rfl (loadPt_run _ (w.heap.size + 1) 0 ⟨x1, x2, x3, x4, x5⟩ R3.out)) ?_) | (refine wpList_noval rfl _ (exec_storePtAt _ _ rfl w.heap.size 0 rfl pZ.cells.toArray D5.out (by simp [Pt.cells]) ⟨x1, x2, x3, x4, x5⟩ rfl) ?_) | fail)
    refine bodyPost_ret (pt_ret rfl rfl (range_of (x := ⟨x1, x2, x3, x4, x5⟩) (by have := R1.out; rw [one_row] at this; exact this))) rfl ?_
    refine ⟨by unfold getA; rw [EG.out, if_pos HZ.out], ?_, K5.out.trans' R2.out (fun i hi hm => by simp at hm; omega)⟩
    rw [EG.out]
    exact E5.out.later R2.out HW0.out (by have := HP.out; omega)
  · have HZ := hid hz
    have hzb : (s5.2 == 0) = false := by simpa using hz
    clear hz
    obtain ⟨r1, r2⟩ := setRow_keepsP (cs := (pZ.cells.toArray.toList.take 0 ++ pZ.cells ++ pZ.cells.toArray.toList.drop (0 + 5)).toArray) D5.out
    have R1 := hid r1
    have R2 := hid r2
    clear r1 r2
    go_wp2_with (first | (refine wpList_is rfl _ _ (exec_buildPtZ rfl) ?_) | (refine wpList_noval rfl _ (exec_storePtAt _ _ rfl w.heap.size 0 rfl pZ.cells.toArray D5.out (by simp [Pt.cells]) pZ rfl) ?_) | fail)
    refine bodyPost_ret (pt_ret rfl rfl (range_of (x := pZ) (by have := R1.out; rw [one_row] at this; exact this))) rfl ?_
    refine ⟨by unfold getA; rw [EG.out, if_neg HZ.out], ?_, K5.out.trans' R2.out (fun i hi hm => by simp at hm; omega)⟩
    rw [EG.out]
    exact E5.out.later R2.out HW0.out (by have := HP.out; omega)
end Go.Proofs.Ytoglcohdanpciaa
