/- delta: the reference's GetDelta. -/
import Derived.Test.YtoglcohdanpciaaDeG
import Derived.Test.YtoglcohdanpciaaDeC
namespace Go.Proofs.Ytoglcohdanpciaa
open Go.RowKit Go.Shelf
set_option maxRecDepth 100000
set_option linter.unusedSimpArgs false

def getD (st : PSt) : Dl × PSt :=
  if (headE st).1.d = 1 then ({ (headE st).1 with t := (getP (headE st).2).1 }, (getP (headE st).2).2)
  else if (headE st).1.d = 3 then ({ (headE st).1 with o := (getP (headE st).2).1, t := (getP (getP (headE st).2).2).1 }, (getP (getP (headE st).2).2).2)
  else headE st
/-- What the reference's eye knows behind a delta. -/
def finD (o : Dl × PSt) : PSt := formW o.2 (!mayL o.1)
def RGetPost (w : World) (B p : Nat) (st : PSt) (e : Ending) (w' : World) : Prop :=
  e = .returned (dlV (getD st).1) ∧ REyL w' B p (finD (getD st)) ∧ Keeps [p] w w'

set_option maxHeartbeats 12800000 in
theorem rdGet1_any (w : World) (B p : Nat) (st : PSt) (h : REyL w B p st) (hB : B ≤ w.heap.size) (hd : (headE st).1.d = 1) :
    Calls Try.prog 98 #[.pointer (some ⟨p, 0, none⟩)] w (RGetPost w B p st) := by
  have HB := hid hB
  have hpw := h.lt
  have HP := hid hpw
  have k1 : Keeps [] w (w.alloc (.cells dZ.cells.toArray 149)) := (Keeps.refl [] w).alloc _
  have k2 : Keeps [] w ((w.alloc (.cells dZ.cells.toArray 149)).alloc (.cells dZ.cells.toArray 149)) := k1.alloc _
  have E0 := hid (h.more k2)
  have D0 : Hid (((w.alloc (.cells dZ.cells.toArray 149)).alloc (.cells dZ.cells.toArray 149)).heap[w.heap.size]? = some (.cells dZ.cells.toArray 149 (0, 0))) := hid (((Keeps.refl [] (w.alloc (.cells dZ.cells.toArray 149))).alloc _).block _ (by simp) (by simp) |>.trans (heap_alloc_new w _))
  have b3 := heap_alloc_new (w.alloc (.cells dZ.cells.toArray 149)) (.cells dZ.cells.toArray 149)
  rw [World.size_alloc] at b3
  have J0 := hid b3
  have K0 := hid (k2.mono (S' := [p]) (by simp))
  obtain ⟨x1, s1, e1⟩ : ∃ x s, numE 1 st = (x, s) := ⟨_, _, rfl⟩
  obtain ⟨x2, s2, e2⟩ : ∃ x s, numE 2 s1 = (x, s) := ⟨_, _, rfl⟩
  obtain ⟨x3, s3, e3⟩ : ∃ x s, numE 1 s2 = (x, s) := ⟨_, _, rfl⟩
  obtain ⟨x4, s4, e4⟩ : ∃ x s, numE 2 s3 = (x, s) := ⟨_, _, rfl⟩
  have eh : headE st = (⟨x1, x2, x3, x4, pZ, pZ⟩, s4) := by unfold headE; rw [e1]; simp only; rw [e2]; simp only; rw [e3]; simp only; rw [e4]
  rw [eh] at hd
  simp only at hd
  obtain ⟨y1, t1, f1⟩ : ∃ x s, getP s4 = (x, s) := ⟨_, _, rfl⟩
  have EQ : Hid (getD st = (⟨x1, x2, x3, x4, y1, pZ⟩, t1)) := hid (by unfold getD; rw [eh]; simp only; rw [if_pos hd, f1])
  subst hd
  have N1 := hid e1
  have N2 := hid e2
  have N3 := hid e3
  have N4 := hid e4
  have M1 := hid f1
  clear h hB hpw k1 k2 b3 eh e1 e2 e3 e4 f1
  go_enter Try.func98, Try.ntmps98
  go_wp2_with (first | (refine wpList_is rfl _ _ (exec_alloc 149 dZ.cells.toArray iDelta rfl) ?_) | (refine wpList_is rfl _ _ (exec_buildDlZ rfl) ?_) | (refine wpList_noval rfl _ (exec_storeNew 149 _ _ rfl (w.alloc (.cells dZ.cells.toArray 149)) dZ.cells.toArray dZ.cells.toArray rfl rfl rfl iDelta rfl (dcells_one dZ)) ?_) | fail)
  have A := E0.out.num 1
  rw [N1.out] at A
  refine A.mono ?_
  rintro e u1 ⟨rfl, ey, kk⟩
  have F1 := hid ((kk.block (w.heap.size + 1) (lt_of_block J0.out) (by have := HP.out; simp; omega)).trans J0.out)
  have G1 := hid ((kk.block w.heap.size (lt_of_block D0.out) (by have := HP.out; simp; omega)).trans D0.out)
  have T1 := hid ey
  have KU1 := hid (K0.out.trans kk)
  obtain ⟨cc, ff⟩ := five_cells F1.out 0
  change u1.cell? ⟨w.heap.size + 1, 0, none⟩ = some (.int .i64 0) at cc
  clear A ey kk
  have jj := set_five (i := 0) F1.out (.int .i64 1)
  have J1 : Hid ((u1.setCell ⟨w.heap.size + 1, 0, none⟩ (.int .i64 1)).heap[w.heap.size + 1]? = some (.cells (⟨1, 0, 0, 0, pZ, pZ⟩ : Dl).cells.toArray 149 (0, 0))) := hid jj
  have sk : Keeps [w.heap.size + 1] u1 (u1.setCell ⟨w.heap.size + 1, 0, none⟩ (.int .i64 1)) := set_keep
  have D1 := hid ((sk.block w.heap.size (lt_of_block G1.out) (by simp)).trans G1.out)
  have E1 := hid (T1.out.later sk (by have := HB.out; omega) (by have := HP.out; omega))
  have K1 := hid (KU1.out.trans' sk (fun i hi hm => by simp at hm; omega))
  clear sk jj
  go_wp2_with fail
  have A := E1.out.num 2
  rw [N2.out] at A
  refine A.mono ?_
  rintro e u2 ⟨rfl, ey, kk⟩
  have F2 := hid ((kk.block (w.heap.size + 1) (lt_of_block J1.out) (by have := HP.out; simp; omega)).trans J1.out)
  have G2 := hid ((kk.block w.heap.size (lt_of_block D1.out) (by have := HP.out; simp; omega)).trans D1.out)
  have T2 := hid ey
  have KU2 := hid (K1.out.trans kk)
  obtain ⟨cc, ff⟩ := five_cells F2.out 1
  change u2.cell? ⟨w.heap.size + 1, 1, none⟩ = some (.int .i64 0) at cc
  clear A ey kk
  have jj := set_five (i := 1) F2.out (.int .i64 x2)
  have J2 : Hid ((u2.setCell ⟨w.heap.size + 1, 1, none⟩ (.int .i64 x2)).heap[w.heap.size + 1]? = some (.cells (⟨1, x2, 0, 0, pZ, pZ⟩ : Dl).cells.toArray 149 (0, 0))) := hid jj
  have sk : Keeps [w.heap.size + 1] u2 (u2.setCell ⟨w.heap.size + 1, 1, none⟩ (.int .i64 x2)) := set_keep
  have D2 := hid ((sk.block w.heap.size (lt_of_block G2.out) (by simp)).trans G2.out)
  have E2 := hid (T2.out.later sk (by have := HB.out; omega) (by have := HP.out; omega))
  have K2 := hid (KU2.out.trans' sk (fun i hi hm => by simp at hm; omega))
  clear sk jj
  go_wp2_with fail
  have A := E2.out.num 1
  rw [N3.out] at A
  refine A.mono ?_
  rintro e u3 ⟨rfl, ey, kk⟩
  have F3 := hid ((kk.block (w.heap.size + 1) (lt_of_block J2.out) (by have := HP.out; simp; omega)).trans J2.out)
  have G3 := hid ((kk.block w.heap.size (lt_of_block D2.out) (by have := HP.out; simp; omega)).trans D2.out)
  have T3 := hid ey
  have KU3 := hid (K2.out.trans kk)
  obtain ⟨cc, ff⟩ := five_cells F3.out 2
  change u3.cell? ⟨w.heap.size + 1, 2, none⟩ = some (.int .i64 0) at cc
  clear A ey kk
  have jj := set_five (i := 2) F3.out (.int .i64 x3)
  have J3 : Hid ((u3.setCell ⟨w.heap.size + 1, 2, none⟩ (.int .i64 x3)).heap[w.heap.size + 1]? = some (.cells (⟨1, x2, x3, 0, pZ, pZ⟩ : Dl).cells.toArray 149 (0, 0))) := hid jj
  have sk : Keeps [w.heap.size + 1] u3 (u3.setCell ⟨w.heap.size + 1, 2, none⟩ (.int .i64 x3)) := set_keep
  have D3 := hid ((sk.block w.heap.size (lt_of_block G3.out) (by simp)).trans G3.out)
  have E3 := hid (T3.out.later sk (by have := HB.out; omega) (by have := HP.out; omega))
  have K3 := hid (KU3.out.trans' sk (fun i hi hm => by simp at hm; omega))
  clear sk jj
  go_wp2_with fail
  have A := E3.out.num 2
  rw [N4.out] at A
  refine A.mono ?_
  rintro e u4 ⟨rfl, ey, kk⟩
  have F4 := hid ((kk.block (w.heap.size + 1) (lt_of_block J3.out) (by have := HP.out; simp; omega)).trans J3.out)
  have G4 := hid ((kk.block w.heap.size (lt_of_block D3.out) (by have := HP.out; simp; omega)).trans D3.out)
  have T4 := hid ey
  have KU4 := hid (K3.out.trans kk)
  obtain ⟨cc, ff⟩ := five_cells F4.out 3
  change u4.cell? ⟨w.heap.size + 1, 3, none⟩ = some (.int .i64 0) at cc
  clear A ey kk
  have jj := set_five (i := 3) F4.out (.int .i64 x4)
  have J4 : Hid ((u4.setCell ⟨w.heap.size + 1, 3, none⟩ (.int .i64 x4)).heap[w.heap.size + 1]? = some (.cells (⟨1, x2, x3, x4, pZ, pZ⟩ : Dl).cells.toArray 149 (0, 0))) := hid jj
  have sk : Keeps [w.heap.size + 1] u4 (u4.setCell ⟨w.heap.size + 1, 3, none⟩ (.int .i64 x4)) := set_keep
  have D4 := hid ((sk.block w.heap.size (lt_of_block G4.out) (by simp)).trans G4.out)
  have E4 := hid (T4.out.later sk (by have := HB.out; omega) (by have := HP.out; omega))
  have K4 := hid (KU4.out.trans' sk (fun i hi hm => by simp at hm; omega))
  clear sk jj
  obtain ⟨cd, fd⟩ := five_cells J4.out 0
  change (u4.setCell ⟨w.heap.size + 1, 3, none⟩ (.int .i64 x4)).cell? ⟨w.heap.size + 1, 0, none⟩ = some (.int .i64 1) at cd
  clear fd
  go_wp2_with fail
  have A := rGetPtr_any _ B p _ E4.out (by have := HB.out; have := K4.out.size; omega)
  rw [M1.out] at A
  refine A.mono ?_
  rintro e u5 ⟨rfl, ey, kk⟩
  have F5 := hid ((kk.block (w.heap.size + 1) (lt_of_block J4.out) (by have := HP.out; simp; omega)).trans J4.out)
  have G5 := hid ((kk.block w.heap.size (lt_of_block D4.out) (by have := HP.out; simp; omega)).trans D4.out)
  have T5 := hid ey
  have KU5 := hid (K4.out.trans kk)
  clear A ey kk cd
  obtain ⟨r1, r2⟩ := setRow_keepsP (cs := ((⟨1, x2, x3, x4, pZ, pZ⟩ : Dl).cells.toArray.toList.take 4 ++ y1.cells ++ (⟨1, x2, x3, x4, pZ, pZ⟩ : Dl).cells.toArray.toList.drop (4 + 5)).toArray) F5.out
  have J5 : Hid ((u5.setRow (w.heap.size + 1) ((⟨1, x2, x3, x4, pZ, pZ⟩ : Dl).cells.toArray.toList.take 4 ++ y1.cells ++ (⟨1, x2, x3, x4, pZ, pZ⟩ : Dl).cells.toArray.toList.drop (4 + 5)).toArray).heap[w.heap.size + 1]? = some (.cells (⟨1, x2, x3, x4, y1, pZ⟩ : Dl).cells.toArray 149 (0, 0))) := hid r1
  have D5 := hid ((r2.block w.heap.size (lt_of_block G5.out) (by simp)).trans G5.out)
  have E5 := hid (T5.out.later r2 (by have := HB.out; omega) (by have := HP.out; omega))
  have K5 := hid (KU5.out.trans' r2 (fun i hi hm => by simp at hm; omega))
  clear r1 r2
  have ARM := hid (fun (ρ : Operand → Value) (o : Oper) (x y : Operand) (hop : o.op = .store 147 x y) (hx : ρ x = .pointer (some ⟨w.heap.size + 1, 4, none⟩)) (hy : ρ y = ptV y1) => exec_storePtIn x y hop 149 (w.heap.size + 1) 4 hx (⟨1, x2, x3, x4, pZ, pZ⟩ : Dl).cells.toArray F5.out (by simp [Dl.cells, Pt.cells]) y1 hy)
  obtain ⟨W5, hW⟩ : ∃ W, W = u5.setRow (w.heap.size + 1) ((⟨1, x2, x3, x4, pZ, pZ⟩ : Dl).cells.toArray.toList.take 4 ++ y1.cells ++ (⟨1, x2, x3, x4, pZ, pZ⟩ : Dl).cells.toArray.toList.drop (4 + 5)).toArray := ⟨_, rfl⟩
  rw [← hW] at J5 D5 E5 K5 ARM
  clear hW
  have CB := REyL.cells E5.out
  have cb := CB.1
  clear CB
  have FE := E5
  have FD := J5
  have FR := D5
  have FK := K5
  obtain ⟨xz, hxz⟩ : ∃ x : Dl, x = ⟨1, x2, x3, x4, y1, pZ⟩ := ⟨_, rfl⟩
  rw [← hxz] at FD EQ
  clear hxz
  by_cases hz : t1.2 = 0
  · have HZ := hid hz
    have hzb : (t1.2 == 0) = true := by simpa using hz
    clear hz
    go_wp2_with (first | (refine wpList_isW rfl _ _ (exec_load _ _ _ _ rfl rfl (loadDl_run _ (w.heap.size + 1) 0 xz (range_dl FD.out))) ?_) | (refine wpList_noval rfl W5 (ARM.out _ _ _ _ rfl rfl rfl) ?_))
    refine (rdMay_any _ xz).mono ?_
    rintro e u8 ⟨rfl, k8⟩
    have FE8 := hid (FE.out.more k8)
    have FD8 := hid ((k8.block _ (lt_of_block FD.out) (by simp)).trans FD.out)
    have FR8 := hid ((k8.block _ (lt_of_block FR.out) (by simp)).trans FR.out)
    have FK8 := hid (FK.out.trans (k8.mono (by simp)))
    clear k8 cb
    go_wp2_with fail
    refine (rForm_any FE8.out (!mayL xz)).mono ?_
    rintro e u9 ⟨rfl, ey, k9⟩
    have FE9 := hid ey
    have FD9 := hid ((k9.block _ (lt_of_block FD8.out) (by have := HP.out; simp; omega)).trans FD8.out)
    have FR9 := hid ((k9.block _ (lt_of_block FR8.out) (by have := HP.out; simp; omega)).trans FR8.out)
    have FK9 := hid (FK8.out.trans k9)
    clear k9 ey
    obtain ⟨r1, r2⟩ := setRow_keepsP (cs := xz.cells.toArray) FR9.out
    have R1 := hid r1
    have R2 := hid r2
    clear r1 r2
    go_wp2_with (first | (refine wpList_isW rfl _ _ (exec_load _ _ _ _ rfl rfl (loadDl_run _ (w.heap.size + 1) 0 xz (range_dl FD9.out))) ?_) | (refine wpList_noval rfl _ (exec_storeDl _ _ rfl w.heap.size rfl dZ 149 FR9.out xz rfl) ?_) | fail)
    refine bodyPost_ret (dl_ret1 rfl rfl (range_dl R1.out)) rfl ?_
    exact ⟨by rw [EQ.out], by rw [EQ.out]; exact FE9.out.later R2.out HB.out (by have := HP.out; omega), FK9.out.trans' R2.out (fun i hi hm => by simp at hm; omega)⟩
  · have HZ := hid hz
    have hzb : (t1.2 == 0) = false := by simpa using hz
    clear hz
    obtain ⟨r1, r2⟩ := setRow_keepsP (cs := xz.cells.toArray) FR.out
    have R1 := hid r1
    have R2 := hid r2
    clear r1 r2
    go_wp2_with (first | (refine wpList_isW rfl _ _ (exec_load _ _ _ _ rfl rfl (loadDl_run _ (w.heap.size + 1) 0 xz (range_dl FD.out))) ?_) | (refine wpList_noval rfl _ (exec_storeDl _ _ rfl w.heap.size rfl dZ 149 FR.out xz rfl) ?_) | (refine wpList_noval rfl W5 (ARM.out _ _ _ _ rfl rfl rfl) ?_))
    refine bodyPost_ret (dl_ret1 rfl rfl (range_dl R1.out)) rfl ?_
    exact ⟨by rw [EQ.out], by rw [EQ.out]; unfold finD formW; rw [if_neg (fun h => HZ.out h.2)]; exact FE.out.later R2.out HB.out (by have := HP.out; omega), FK.out.trans' R2.out (fun i hi hm => by simp at hm; omega)⟩
  
set_option maxHeartbeats 12800000 in
theorem rdGet3_any (w : World) (B p : Nat) (st : PSt) (h : REyL w B p st) (hB : B ≤ w.heap.size) (hd : (headE st).1.d = 3) :
    Calls Try.prog 98 #[.pointer (some ⟨p, 0, none⟩)] w (RGetPost w B p st) := by
  have HB := hid hB
  have hpw := h.lt
  have HP := hid hpw
  have k1 : Keeps [] w (w.alloc (.cells dZ.cells.toArray 149)) := (Keeps.refl [] w).alloc _
  have k2 : Keeps [] w ((w.alloc (.cells dZ.cells.toArray 149)).alloc (.cells dZ.cells.toArray 149)) := k1.alloc _
  have E0 := hid (h.more k2)
  have D0 : Hid (((w.alloc (.cells dZ.cells.toArray 149)).alloc (.cells dZ.cells.toArray 149)).heap[w.heap.size]? = some (.cells dZ.cells.toArray 149 (0, 0))) := hid (((Keeps.refl [] (w.alloc (.cells dZ.cells.toArray 149))).alloc _).block _ (by simp) (by simp) |>.trans (heap_alloc_new w _))
  have b3 := heap_alloc_new (w.alloc (.cells dZ.cells.toArray 149)) (.cells dZ.cells.toArray 149)
  rw [World.size_alloc] at b3
  have J0 := hid b3
  have K0 := hid (k2.mono (S' := [p]) (by simp))
  obtain ⟨x1, s1, e1⟩ : ∃ x s, numE 1 st = (x, s) := ⟨_, _, rfl⟩
  obtain ⟨x2, s2, e2⟩ : ∃ x s, numE 2 s1 = (x, s) := ⟨_, _, rfl⟩
  obtain ⟨x3, s3, e3⟩ : ∃ x s, numE 1 s2 = (x, s) := ⟨_, _, rfl⟩
  obtain ⟨x4, s4, e4⟩ : ∃ x s, numE 2 s3 = (x, s) := ⟨_, _, rfl⟩
  have eh : headE st = (⟨x1, x2, x3, x4, pZ, pZ⟩, s4) := by unfold headE; rw [e1]; simp only; rw [e2]; simp only; rw [e3]; simp only; rw [e4]
  rw [eh] at hd
  simp only at hd
  obtain ⟨y1, t1, f1⟩ : ∃ x s, getP s4 = (x, s) := ⟨_, _, rfl⟩
  obtain ⟨y2, t2, f2⟩ : ∃ x s, getP t1 = (x, s) := ⟨_, _, rfl⟩
  have EQ : Hid (getD st = (⟨x1, x2, x3, x4, y2, y1⟩, t2)) := hid (by unfold getD; rw [eh]; simp only; rw [if_neg (by omega), if_pos hd, f1]; simp only; rw [f2])
  subst hd
  have N1 := hid e1
  have N2 := hid e2
  have N3 := hid e3
  have N4 := hid e4
  have M1 := hid f1
  have M2 := hid f2
  clear h hB hpw k1 k2 b3 eh e1 e2 e3 e4 f1 f2
  go_enter Try.func98, Try.ntmps98
  go_wp2_with (first | (refine wpList_is rfl _ _ (exec_alloc 149 dZ.cells.toArray iDelta rfl) ?_) | (refine wpList_is rfl _ _ (exec_buildDlZ rfl) ?_) | (refine wpList_noval rfl _ (exec_storeNew 149 _ _ rfl (w.alloc (.cells dZ.cells.toArray 149)) dZ.cells.toArray dZ.cells.toArray rfl rfl rfl iDelta rfl (dcells_one dZ)) ?_) | fail)
  have A := E0.out.num 1
  rw [N1.out] at A
  refine A.mono ?_
  rintro e u1 ⟨rfl, ey, kk⟩
  have F1 := hid ((kk.block (w.heap.size + 1) (lt_of_block J0.out) (by have := HP.out; simp; omega)).trans J0.out)
  have G1 := hid ((kk.block w.heap.size (lt_of_block D0.out) (by have := HP.out; simp; omega)).trans D0.out)
  have T1 := hid ey
  have KU1 := hid (K0.out.trans kk)
  obtain ⟨cc, ff⟩ := five_cells F1.out 0
  change u1.cell? ⟨w.heap.size + 1, 0, none⟩ = some (.int .i64 0) at cc
  clear A ey kk
  have jj := set_five (i := 0) F1.out (.int .i64 3)
  have J1 : Hid ((u1.setCell ⟨w.heap.size + 1, 0, none⟩ (.int .i64 3)).heap[w.heap.size + 1]? = some (.cells (⟨3, 0, 0, 0, pZ, pZ⟩ : Dl).cells.toArray 149 (0, 0))) := hid jj
  have sk : Keeps [w.heap.size + 1] u1 (u1.setCell ⟨w.heap.size + 1, 0, none⟩ (.int .i64 3)) := set_keep
  have D1 := hid ((sk.block w.heap.size (lt_of_block G1.out) (by simp)).trans G1.out)
  have E1 := hid (T1.out.later sk (by have := HB.out; omega) (by have := HP.out; omega))
  have K1 := hid (KU1.out.trans' sk (fun i hi hm => by simp at hm; omega))
  clear sk jj
  go_wp2_with fail
  have A := E1.out.num 2
  rw [N2.out] at A
  refine A.mono ?_
  rintro e u2 ⟨rfl, ey, kk⟩
  have F2 := hid ((kk.block (w.heap.size + 1) (lt_of_block J1.out) (by have := HP.out; simp; omega)).trans J1.out)
  have G2 := hid ((kk.block w.heap.size (lt_of_block D1.out) (by have := HP.out; simp; omega)).trans D1.out)
  have T2 := hid ey
  have KU2 := hid (K1.out.trans kk)
  obtain ⟨cc, ff⟩ := five_cells F2.out 1
  change u2.cell? ⟨w.heap.size + 1, 1, none⟩ = some (.int .i64 0) at cc
  clear A ey kk
  have jj := set_five (i := 1) F2.out (.int .i64 x2)
  have J2 : Hid ((u2.setCell ⟨w.heap.size + 1, 1, none⟩ (.int .i64 x2)).heap[w.heap.size + 1]? = some (.cells (⟨3, x2, 0, 0, pZ, pZ⟩ : Dl).cells.toArray 149 (0, 0))) := hid jj
  have sk : Keeps [w.heap.size + 1] u2 (u2.setCell ⟨w.heap.size + 1, 1, none⟩ (.int .i64 x2)) := set_keep
  have D2 := hid ((sk.block w.heap.size (lt_of_block G2.out) (by simp)).trans G2.out)
  have E2 := hid (T2.out.later sk (by have := HB.out; omega) (by have := HP.out; omega))
  have K2 := hid (KU2.out.trans' sk (fun i hi hm => by simp at hm; omega))
  clear sk jj
  go_wp2_with fail
  have A := E2.out.num 1
  rw [N3.out] at A
  refine A.mono ?_
  rintro e u3 ⟨rfl, ey, kk⟩
  have F3 := hid ((kk.block (w.heap.size + 1) (lt_of_block J2.out) (by have := HP.out; simp; omega)).trans J2.out)
  have G3 := hid ((kk.block w.heap.size (lt_of_block D2.out) (by have := HP.out; simp; omega)).trans D2.out)
  have T3 := hid ey
  have KU3 := hid (K2.out.trans kk)
  obtain ⟨cc, ff⟩ := five_cells F3.out 2
  change u3.cell? ⟨w.heap.size + 1, 2, none⟩ = some (.int .i64 0) at cc
  clear A ey kk
  have jj := set_five (i := 2) F3.out (.int .i64 x3)
  have J3 : Hid ((u3.setCell ⟨w.heap.size + 1, 2, none⟩ (.int .i64 x3)).heap[w.heap.size + 1]? = some (.cells (⟨3, x2, x3, 0, pZ, pZ⟩ : Dl).cells.toArray 149 (0, 0))) := hid jj
  have sk : Keeps [w.heap.size + 1] u3 (u3.setCell ⟨w.heap.size + 1, 2, none⟩ (.int .i64 x3)) := set_keep
  have D3 := hid ((sk.block w.heap.size (lt_of_block G3.out) (by simp)).trans G3.out)
  have E3 := hid (T3.out.later sk (by have := HB.out; omega) (by have := HP.out; omega))
  have K3 := hid (KU3.out.trans' sk (fun i hi hm => by simp at hm; omega))
  clear sk jj
  go_wp2_with fail
  have A := E3.out.num 2
  rw [N4.out] at A
  refine A.mono ?_
  rintro e u4 ⟨rfl, ey, kk⟩
  have F4 := hid ((kk.block (w.heap.size + 1) (lt_of_block J3.out) (by have := HP.out; simp; omega)).trans J3.out)
  have G4 := hid ((kk.block w.heap.size (lt_of_block D3.out) (by have := HP.out; simp; omega)).trans D3.out)
  have T4 := hid ey
  have KU4 := hid (K3.out.trans kk)
  obtain ⟨cc, ff⟩ := five_cells F4.out 3
  change u4.cell? ⟨w.heap.size + 1, 3, none⟩ = some (.int .i64 0) at cc
  clear A ey kk
  have jj := set_five (i := 3) F4.out (.int .i64 x4)
  have J4 : Hid ((u4.setCell ⟨w.heap.size + 1, 3, none⟩ (.int .i64 x4)).heap[w.heap.size + 1]? = some (.cells (⟨3, x2, x3, x4, pZ, pZ⟩ : Dl).cells.toArray 149 (0, 0))) := hid jj
  have sk : Keeps [w.heap.size + 1] u4 (u4.setCell ⟨w.heap.size + 1, 3, none⟩ (.int .i64 x4)) := set_keep
  have D4 := hid ((sk.block w.heap.size (lt_of_block G4.out) (by simp)).trans G4.out)
  have E4 := hid (T4.out.later sk (by have := HB.out; omega) (by have := HP.out; omega))
  have K4 := hid (KU4.out.trans' sk (fun i hi hm => by simp at hm; omega))
  clear sk jj
  obtain ⟨cd, fd⟩ := five_cells J4.out 0
  change (u4.setCell ⟨w.heap.size + 1, 3, none⟩ (.int .i64 x4)).cell? ⟨w.heap.size + 1, 0, none⟩ = some (.int .i64 3) at cd
  clear fd
  go_wp2_with fail
  have A := rGetPtr_any _ B p _ E4.out (by have := HB.out; have := K4.out.size; omega)
  rw [M1.out] at A
  refine A.mono ?_
  rintro e u5 ⟨rfl, ey, kk⟩
  have F5 := hid ((kk.block (w.heap.size + 1) (lt_of_block J4.out) (by have := HP.out; simp; omega)).trans J4.out)
  have G5 := hid ((kk.block w.heap.size (lt_of_block D4.out) (by have := HP.out; simp; omega)).trans D4.out)
  have T5 := hid ey
  have KU5 := hid (K4.out.trans kk)
  clear A ey kk cd
  obtain ⟨r1, r2⟩ := setRow_keepsP (cs := ((⟨3, x2, x3, x4, pZ, pZ⟩ : Dl).cells.toArray.toList.take 9 ++ y1.cells ++ (⟨3, x2, x3, x4, pZ, pZ⟩ : Dl).cells.toArray.toList.drop (9 + 5)).toArray) F5.out
  have J5 : Hid ((u5.setRow (w.heap.size + 1) ((⟨3, x2, x3, x4, pZ, pZ⟩ : Dl).cells.toArray.toList.take 9 ++ y1.cells ++ (⟨3, x2, x3, x4, pZ, pZ⟩ : Dl).cells.toArray.toList.drop (9 + 5)).toArray).heap[w.heap.size + 1]? = some (.cells (⟨3, x2, x3, x4, pZ, y1⟩ : Dl).cells.toArray 149 (0, 0))) := hid r1
  have D5 := hid ((r2.block w.heap.size (lt_of_block G5.out) (by simp)).trans G5.out)
  have E5 := hid (T5.out.later r2 (by have := HB.out; omega) (by have := HP.out; omega))
  have K5 := hid (KU5.out.trans' r2 (fun i hi hm => by simp at hm; omega))
  clear r1 r2
  have ARM := hid (fun (ρ : Operand → Value) (o : Oper) (x y : Operand) (hop : o.op = .store 147 x y) (hx : ρ x = .pointer (some ⟨w.heap.size + 1, 9, none⟩)) (hy : ρ y = ptV y1) => exec_storePtIn x y hop 149 (w.heap.size + 1) 9 hx (⟨3, x2, x3, x4, pZ, pZ⟩ : Dl).cells.toArray F5.out (by simp [Dl.cells, Pt.cells]) y1 hy)
  obtain ⟨W5, hW⟩ : ∃ W, W = u5.setRow (w.heap.size + 1) ((⟨3, x2, x3, x4, pZ, pZ⟩ : Dl).cells.toArray.toList.take 9 ++ y1.cells ++ (⟨3, x2, x3, x4, pZ, pZ⟩ : Dl).cells.toArray.toList.drop (9 + 5)).toArray := ⟨_, rfl⟩
  rw [← hW] at J5 D5 E5 K5 ARM
  clear hW
  have CB := REyL.cells E5.out
  have cb := CB.1
  clear CB
  clear cb
  go_wp2_with (first | (refine wpList_noval rfl W5 (ARM.out _ _ _ _ rfl rfl rfl) ?_) | fail)
  have A := rGetPtr_any _ B p _ E5.out (by have := HB.out; have := K5.out.size; omega)
  rw [M2.out] at A
  refine A.mono ?_
  rintro e u6 ⟨rfl, ey, kk⟩
  have F6 := hid ((kk.block (w.heap.size + 1) (lt_of_block J5.out) (by have := HP.out; simp; omega)).trans J5.out)
  have G6 := hid ((kk.block w.heap.size (lt_of_block D5.out) (by have := HP.out; simp; omega)).trans D5.out)
  have T6 := hid ey
  have KU6 := hid (K5.out.trans kk)
  clear A ey kk 
  obtain ⟨r1, r2⟩ := setRow_keepsP (cs := ((⟨3, x2, x3, x4, pZ, y1⟩ : Dl).cells.toArray.toList.take 4 ++ y2.cells ++ (⟨3, x2, x3, x4, pZ, y1⟩ : Dl).cells.toArray.toList.drop (4 + 5)).toArray) F6.out
  have J6 : Hid ((u6.setRow (w.heap.size + 1) ((⟨3, x2, x3, x4, pZ, y1⟩ : Dl).cells.toArray.toList.take 4 ++ y2.cells ++ (⟨3, x2, x3, x4, pZ, y1⟩ : Dl).cells.toArray.toList.drop (4 + 5)).toArray).heap[w.heap.size + 1]? = some (.cells (⟨3, x2, x3, x4, y2, y1⟩ : Dl).cells.toArray 149 (0, 0))) := hid r1
  have D6 := hid ((r2.block w.heap.size (lt_of_block G6.out) (by simp)).trans G6.out)
  have E6 := hid (T6.out.later r2 (by have := HB.out; omega) (by have := HP.out; omega))
  have K6 := hid (KU6.out.trans' r2 (fun i hi hm => by simp at hm; omega))
  clear r1 r2
  have ARM := hid (fun (ρ : Operand → Value) (o : Oper) (x y : Operand) (hop : o.op = .store 147 x y) (hx : ρ x = .pointer (some ⟨w.heap.size + 1, 4, none⟩)) (hy : ρ y = ptV y2) => exec_storePtIn x y hop 149 (w.heap.size + 1) 4 hx (⟨3, x2, x3, x4, pZ, y1⟩ : Dl).cells.toArray F6.out (by simp [Dl.cells, Pt.cells]) y2 hy)
  obtain ⟨W6, hW⟩ : ∃ W, W = u6.setRow (w.heap.size + 1) ((⟨3, x2, x3, x4, pZ, y1⟩ : Dl).cells.toArray.toList.take 4 ++ y2.cells ++ (⟨3, x2, x3, x4, pZ, y1⟩ : Dl).cells.toArray.toList.drop (4 + 5)).toArray := ⟨_, rfl⟩
  rw [← hW] at J6 D6 E6 K6 ARM
  clear hW
  have CB := REyL.cells E6.out
  have cb := CB.1
  clear CB
  have FE := E6
  have FD := J6
  have FR := D6
  have FK := K6
  obtain ⟨xz, hxz⟩ : ∃ x : Dl, x = ⟨3, x2, x3, x4, y2, y1⟩ := ⟨_, rfl⟩
  rw [← hxz] at FD EQ
  clear hxz
  by_cases hz : t2.2 = 0
  · have HZ := hid hz
    have hzb : (t2.2 == 0) = true := by simpa using hz
    clear hz
    go_wp2_with (first | (refine wpList_isW rfl _ _ (exec_load _ _ _ _ rfl rfl (loadDl_run _ (w.heap.size + 1) 0 xz (range_dl FD.out))) ?_) | (refine wpList_noval rfl W6 (ARM.out _ _ _ _ rfl rfl rfl) ?_))
    refine (rdMay_any _ xz).mono ?_
    rintro e u8 ⟨rfl, k8⟩
    have FE8 := hid (FE.out.more k8)
    have FD8 := hid ((k8.block _ (lt_of_block FD.out) (by simp)).trans FD.out)
    have FR8 := hid ((k8.block _ (lt_of_block FR.out) (by simp)).trans FR.out)
    have FK8 := hid (FK.out.trans (k8.mono (by simp)))
    clear k8 cb
    go_wp2_with fail
    refine (rForm_any FE8.out (!mayL xz)).mono ?_
    rintro e u9 ⟨rfl, ey, k9⟩
    have FE9 := hid ey
    have FD9 := hid ((k9.block _ (lt_of_block FD8.out) (by have := HP.out; simp; omega)).trans FD8.out)
    have FR9 := hid ((k9.block _ (lt_of_block FR8.out) (by have := HP.out; simp; omega)).trans FR8.out)
    have FK9 := hid (FK8.out.trans k9)
    clear k9 ey
    obtain ⟨r1, r2⟩ := setRow_keepsP (cs := xz.cells.toArray) FR9.out
    have R1 := hid r1
    have R2 := hid r2
    clear r1 r2
    go_wp2_with (first | (refine wpList_isW rfl _ _ (exec_load _ _ _ _ rfl rfl (loadDl_run _ (w.heap.size + 1) 0 xz (range_dl FD9.out))) ?_) | (refine wpList_noval rfl _ (exec_storeDl _ _ rfl w.heap.size rfl dZ 149 FR9.out xz rfl) ?_) | fail)
    refine bodyPost_ret (dl_ret1 rfl rfl (range_dl R1.out)) rfl ?_
    exact ⟨by rw [EQ.out], by rw [EQ.out]; exact FE9.out.later R2.out HB.out (by have := HP.out; omega), FK9.out.trans' R2.out (fun i hi hm => by simp at hm; omega)⟩
  · have HZ := hid hz
    have hzb : (t2.2 == 0) = false := by simpa using hz
    clear hz
    obtain ⟨r1, r2⟩ := setRow_keepsP (cs := xz.cells.toArray) FR.out
    have R1 := hid r1
    have R2 := hid r2
    clear r1 r2
    go_wp2_with (first | (refine wpList_isW rfl _ _ (exec_load _ _ _ _ rfl rfl (loadDl_run _ (w.heap.size + 1) 0 xz (range_dl FD.out))) ?_) | (refine wpList_noval rfl _ (exec_storeDl _ _ rfl w.heap.size rfl dZ 149 FR.out xz rfl) ?_) | (refine wpList_noval rfl W6 (ARM.out _ _ _ _ rfl rfl rfl) ?_))
    refine bodyPost_ret (dl_ret1 rfl rfl (range_dl R1.out)) rfl ?_
    exact ⟨by rw [EQ.out], by rw [EQ.out]; unfold finD formW; rw [if_neg (fun h => HZ.out h.2)]; exact FE.out.later R2.out HB.out (by have := HP.out; omega), FK.out.trans' R2.out (fun i hi hm => by simp at hm; omega)⟩
  
set_option maxHeartbeats 12800000 in
theorem rdGet0_any (w : World) (B p : Nat) (st : PSt) (h : REyL w B p st) (hB : B ≤ w.heap.size) (h1 : (headE st).1.d ≠ 1) (h3 : (headE st).1.d ≠ 3) :
    Calls Try.prog 98 #[.pointer (some ⟨p, 0, none⟩)] w (RGetPost w B p st) := by
  have HB := hid hB
  have hpw := h.lt
  have HP := hid hpw
  have k1 : Keeps [] w (w.alloc (.cells dZ.cells.toArray 149)) := (Keeps.refl [] w).alloc _
  have k2 : Keeps [] w ((w.alloc (.cells dZ.cells.toArray 149)).alloc (.cells dZ.cells.toArray 149)) := k1.alloc _
  have E0 := hid (h.more k2)
  have D0 : Hid (((w.alloc (.cells dZ.cells.toArray 149)).alloc (.cells dZ.cells.toArray 149)).heap[w.heap.size]? = some (.cells dZ.cells.toArray 149 (0, 0))) := hid (((Keeps.refl [] (w.alloc (.cells dZ.cells.toArray 149))).alloc _).block _ (by simp) (by simp) |>.trans (heap_alloc_new w _))
  have b3 := heap_alloc_new (w.alloc (.cells dZ.cells.toArray 149)) (.cells dZ.cells.toArray 149)
  rw [World.size_alloc] at b3
  have J0 := hid b3
  have K0 := hid (k2.mono (S' := [p]) (by simp))
  obtain ⟨x1, s1, e1⟩ : ∃ x s, numE 1 st = (x, s) := ⟨_, _, rfl⟩
  obtain ⟨x2, s2, e2⟩ : ∃ x s, numE 2 s1 = (x, s) := ⟨_, _, rfl⟩
  obtain ⟨x3, s3, e3⟩ : ∃ x s, numE 1 s2 = (x, s) := ⟨_, _, rfl⟩
  obtain ⟨x4, s4, e4⟩ : ∃ x s, numE 2 s3 = (x, s) := ⟨_, _, rfl⟩
  have eh : headE st = (⟨x1, x2, x3, x4, pZ, pZ⟩, s4) := by unfold headE; rw [e1]; simp only; rw [e2]; simp only; rw [e3]; simp only; rw [e4]
  rw [eh] at h1 h3
  simp only at h1 h3
  have d1 : (x1 == 1) = false := by simpa using h1
  have d3 : (x1 == 3) = false := by simpa using h3
  have EQ : Hid (getD st = (⟨x1, x2, x3, x4, pZ, pZ⟩, s4)) := hid (by unfold getD; rw [eh]; simp only; rw [if_neg h1, if_neg h3])
  clear h1 h3
  have N1 := hid e1
  have N2 := hid e2
  have N3 := hid e3
  have N4 := hid e4
  clear h hB hpw k1 k2 b3 eh e1 e2 e3 e4
  go_enter Try.func98, Try.ntmps98
  go_wp2_with (first | (refine wpList_is rfl _ _ (exec_alloc 149 dZ.cells.toArray iDelta rfl) ?_) | (refine wpList_is rfl _ _ (exec_buildDlZ rfl) ?_) | (refine wpList_noval rfl _ (exec_storeNew 149 _ _ rfl (w.alloc (.cells dZ.cells.toArray 149)) dZ.cells.toArray dZ.cells.toArray rfl rfl rfl iDelta rfl (dcells_one dZ)) ?_) | fail)
  have A := E0.out.num 1
  rw [N1.out] at A
  refine A.mono ?_
  rintro e u1 ⟨rfl, ey, kk⟩
  have F1 := hid ((kk.block (w.heap.size + 1) (lt_of_block J0.out) (by have := HP.out; simp; omega)).trans J0.out)
  have G1 := hid ((kk.block w.heap.size (lt_of_block D0.out) (by have := HP.out; simp; omega)).trans D0.out)
  have T1 := hid ey
  have KU1 := hid (K0.out.trans kk)
  obtain ⟨cc, ff⟩ := five_cells F1.out 0
  change u1.cell? ⟨w.heap.size + 1, 0, none⟩ = some (.int .i64 0) at cc
  clear A ey kk
  have jj := set_five (i := 0) F1.out (.int .i64 x1)
  have J1 : Hid ((u1.setCell ⟨w.heap.size + 1, 0, none⟩ (.int .i64 x1)).heap[w.heap.size + 1]? = some (.cells (⟨x1, 0, 0, 0, pZ, pZ⟩ : Dl).cells.toArray 149 (0, 0))) := hid jj
  have sk : Keeps [w.heap.size + 1] u1 (u1.setCell ⟨w.heap.size + 1, 0, none⟩ (.int .i64 x1)) := set_keep
  have D1 := hid ((sk.block w.heap.size (lt_of_block G1.out) (by simp)).trans G1.out)
  have E1 := hid (T1.out.later sk (by have := HB.out; omega) (by have := HP.out; omega))
  have K1 := hid (KU1.out.trans' sk (fun i hi hm => by simp at hm; omega))
  clear sk jj
  go_wp2_with fail
  have A := E1.out.num 2
  rw [N2.out] at A
  refine A.mono ?_
  rintro e u2 ⟨rfl, ey, kk⟩
  have F2 := hid ((kk.block (w.heap.size + 1) (lt_of_block J1.out) (by have := HP.out; simp; omega)).trans J1.out)
  have G2 := hid ((kk.block w.heap.size (lt_of_block D1.out) (by have := HP.out; simp; omega)).trans D1.out)
  have T2 := hid ey
  have KU2 := hid (K1.out.trans kk)
  obtain ⟨cc, ff⟩ := five_cells F2.out 1
  change u2.cell? ⟨w.heap.size + 1, 1, none⟩ = some (.int .i64 0) at cc
  clear A ey kk
  have jj := set_five (i := 1) F2.out (.int .i64 x2)
  have J2 : Hid ((u2.setCell ⟨w.heap.size + 1, 1, none⟩ (.int .i64 x2)).heap[w.heap.size + 1]? = some (.cells (⟨x1, x2, 0, 0, pZ, pZ⟩ : Dl).cells.toArray 149 (0, 0))) := hid jj
  have sk : Keeps [w.heap.size + 1] u2 (u2.setCell ⟨w.heap.size + 1, 1, none⟩ (.int .i64 x2)) := set_keep
  have D2 := hid ((sk.block w.heap.size (lt_of_block G2.out) (by simp)).trans G2.out)
  have E2 := hid (T2.out.later sk (by have := HB.out; omega) (by have := HP.out; omega))
  have K2 := hid (KU2.out.trans' sk (fun i hi hm => by simp at hm; omega))
  clear sk jj
  go_wp2_with fail
  have A := E2.out.num 1
  rw [N3.out] at A
  refine A.mono ?_
  rintro e u3 ⟨rfl, ey, kk⟩
  have F3 := hid ((kk.block (w.heap.size + 1) (lt_of_block J2.out) (by have := HP.out; simp; omega)).trans J2.out)
  have G3 := hid ((kk.block w.heap.size (lt_of_block D2.out) (by have := HP.out; simp; omega)).trans D2.out)
  have T3 := hid ey
  have KU3 := hid (K2.out.trans kk)
  obtain ⟨cc, ff⟩ := five_cells F3.out 2
  change u3.cell? ⟨w.heap.size + 1, 2, none⟩ = some (.int .i64 0) at cc
  clear A ey kk
  have jj := set_five (i := 2) F3.out (.int .i64 x3)
  have J3 : Hid ((u3.setCell ⟨w.heap.size + 1, 2, none⟩ (.int .i64 x3)).heap[w.heap.size + 1]? = some (.cells (⟨x1, x2, x3, 0, pZ, pZ⟩ : Dl).cells.toArray 149 (0, 0))) := hid jj
  have sk : Keeps [w.heap.size + 1] u3 (u3.setCell ⟨w.heap.size + 1, 2, none⟩ (.int .i64 x3)) := set_keep
  have D3 := hid ((sk.block w.heap.size (lt_of_block G3.out) (by simp)).trans G3.out)
  have E3 := hid (T3.out.later sk (by have := HB.out; omega) (by have := HP.out; omega))
  have K3 := hid (KU3.out.trans' sk (fun i hi hm => by simp at hm; omega))
  clear sk jj
  go_wp2_with fail
  have A := E3.out.num 2
  rw [N4.out] at A
  refine A.mono ?_
  rintro e u4 ⟨rfl, ey, kk⟩
  have F4 := hid ((kk.block (w.heap.size + 1) (lt_of_block J3.out) (by have := HP.out; simp; omega)).trans J3.out)
  have G4 := hid ((kk.block w.heap.size (lt_of_block D3.out) (by have := HP.out; simp; omega)).trans D3.out)
  have T4 := hid ey
  have KU4 := hid (K3.out.trans kk)
  obtain ⟨cc, ff⟩ := five_cells F4.out 3
  change u4.cell? ⟨w.heap.size + 1, 3, none⟩ = some (.int .i64 0) at cc
  clear A ey kk
  have jj := set_five (i := 3) F4.out (.int .i64 x4)
  have J4 : Hid ((u4.setCell ⟨w.heap.size + 1, 3, none⟩ (.int .i64 x4)).heap[w.heap.size + 1]? = some (.cells (⟨x1, x2, x3, x4, pZ, pZ⟩ : Dl).cells.toArray 149 (0, 0))) := hid jj
  have sk : Keeps [w.heap.size + 1] u4 (u4.setCell ⟨w.heap.size + 1, 3, none⟩ (.int .i64 x4)) := set_keep
  have D4 := hid ((sk.block w.heap.size (lt_of_block G4.out) (by simp)).trans G4.out)
  have E4 := hid (T4.out.later sk (by have := HB.out; omega) (by have := HP.out; omega))
  have K4 := hid (KU4.out.trans' sk (fun i hi hm => by simp at hm; omega))
  clear sk jj
  obtain ⟨cd, fd⟩ := five_cells J4.out 0
  change (u4.setCell ⟨w.heap.size + 1, 3, none⟩ (.int .i64 x4)).cell? ⟨w.heap.size + 1, 0, none⟩ = some (.int .i64 x1) at cd
  clear fd
  have CB := REyL.cells E4.out
  have cb := CB.1
  clear CB
  have FE := E4
  have FD := J4
  have FR := D4
  have FK := K4
  obtain ⟨xz, hxz⟩ : ∃ x : Dl, x = ⟨x1, x2, x3, x4, pZ, pZ⟩ := ⟨_, rfl⟩
  rw [← hxz] at FD EQ
  clear hxz
  by_cases hz : s4.2 = 0
  · have HZ := hid hz
    have hzb : (s4.2 == 0) = true := by simpa using hz
    clear hz
    go_wp2_with (first | (refine wpList_isW rfl _ _ (exec_load _ _ _ _ rfl rfl (loadDl_run _ (w.heap.size + 1) 0 xz (range_dl FD.out))) ?_) | fail)
    refine (rdMay_any _ xz).mono ?_
    rintro e u8 ⟨rfl, k8⟩
    have FE8 := hid (FE.out.more k8)
    have FD8 := hid ((k8.block _ (lt_of_block FD.out) (by simp)).trans FD.out)
    have FR8 := hid ((k8.block _ (lt_of_block FR.out) (by simp)).trans FR.out)
    have FK8 := hid (FK.out.trans (k8.mono (by simp)))
    clear k8 cb
    go_wp2_with fail
    refine (rForm_any FE8.out (!mayL xz)).mono ?_
    rintro e u9 ⟨rfl, ey, k9⟩
    have FE9 := hid ey
    have FD9 := hid ((k9.block _ (lt_of_block FD8.out) (by have := HP.out; simp; omega)).trans FD8.out)
    have FR9 := hid ((k9.block _ (lt_of_block FR8.out) (by have := HP.out; simp; omega)).trans FR8.out)
    have FK9 := hid (FK8.out.trans k9)
    clear k9 ey
    obtain ⟨r1, r2⟩ := setRow_keepsP (cs := xz.cells.toArray) FR9.out
    have R1 := hid r1
    have R2 := hid r2
    clear r1 r2
    go_wp2_with (first | (refine wpList_isW rfl _ _ (exec_load _ _ _ _ rfl rfl (loadDl_run _ (w.heap.size + 1) 0 xz (range_dl FD9.out))) ?_) | (refine wpList_noval rfl _ (exec_storeDl _ _ rfl w.heap.size rfl dZ 149 FR9.out xz rfl) ?_) | fail)
    refine bodyPost_ret (dl_ret1 rfl rfl (range_dl R1.out)) rfl ?_
    exact ⟨by rw [EQ.out], by rw [EQ.out]; exact FE9.out.later R2.out HB.out (by have := HP.out; omega), FK9.out.trans' R2.out (fun i hi hm => by simp at hm; omega)⟩
  · have HZ := hid hz
    have hzb : (s4.2 == 0) = false := by simpa using hz
    clear hz
    obtain ⟨r1, r2⟩ := setRow_keepsP (cs := xz.cells.toArray) FR.out
    have R1 := hid r1
    have R2 := hid r2
    clear r1 r2
    go_wp2_with (first | (refine wpList_isW rfl _ _ (exec_load _ _ _ _ rfl rfl (loadDl_run _ (w.heap.size + 1) 0 xz (range_dl FD.out))) ?_) | (refine wpList_noval rfl _ (exec_storeDl _ _ rfl w.heap.size rfl dZ 149 FR.out xz rfl) ?_) | fail)
    refine bodyPost_ret (dl_ret1 rfl rfl (range_dl R1.out)) rfl ?_
    exact ⟨by rw [EQ.out], by rw [EQ.out]; unfold finD formW; rw [if_neg (fun h => HZ.out h.2)]; exact FE.out.later R2.out HB.out (by have := HP.out; omega), FK.out.trans' R2.out (fun i hi hm => by simp at hm; omega)⟩
  
theorem rdGet_any (w : World) (B p : Nat) (st : PSt) (h : REyL w B p st) (hB : B ≤ w.heap.size) :
    Calls Try.prog 98 #[.pointer (some ⟨p, 0, none⟩)] w (RGetPost w B p st) := by
  by_cases h1 : (headE st).1.d = 1
  · exact rdGet1_any w B p st h hB h1
  · by_cases h3 : (headE st).1.d = 3
    · exact rdGet3_any w B p st h hB h3
    · exact rdGet0_any w B p st h hB h1 h3
end Go.Proofs.Ytoglcohdanpciaa
