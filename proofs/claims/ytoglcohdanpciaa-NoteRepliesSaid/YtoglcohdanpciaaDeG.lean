/- delta: Get. -/
import Derived.Test.YtoglcohdanpciaaDeF
namespace Go.Proofs.Ytoglcohdanpciaa
open Go.RowKit Go.Shelf
set_option maxRecDepth 100000
set_option linter.unusedSimpArgs false

/-- What a reading has read, and what is left. -/
def getC (st : PSt) : Dl × PSt :=
  if (headE st).1.d = 1 then ({ (headE st).1 with t := getA (headE st).2 }, (getP (headE st).2).2)
  else if (headE st).1.d = 3 then ({ (headE st).1 with o := getA (headE st).2, t := getA (getP (headE st).2).2 }, (getP (getP (headE st).2).2).2)
  else headE st
/-- What Get answers. -/
def getO (o : Dl × PSt) : Dl × Int := if o.2.2 ≠ 0 then (dZ, o.2.2) else if mayL o.1 = true then (o.1, 0) else (dZ, 4)
def GetPost (w0 w : World) (B p : Nat) (v : Value) (st : PSt) (e : Ending) (w' : World) : Prop :=
  e = .returned (.tuple #[dlV (getO (getC st)).1, .int .i64 (getO (getC st)).2]) ∧ EyL w0 w' B p v (getC st).2 ∧ Keeps [p] w w'
theorem exec_storeDl {ρ : Operand → Value} {o : Oper} {w : World} (x y : Operand) (hop : o.op = .store 149 x y) (g : Nat) (hx : ρ x = .pointer (some ⟨g, 0, none⟩)) (z : Dl) (T : TypeId)
    (hb : w.heap[g]? = some (.cells z.cells.toArray T (0, 0))) (t : Dl) (hy : ρ y = dlV t) :
    (execOp ρ o).run Try.prog w = .ok .skip (w.setRow g t.cells.toArray) := by
  have hst := run_storeCells_at Try.prog g 0 T t.cells 0 z.cells.toArray w hb (by simp [Dl.cells, Pt.cells]) (fun v hv => by
    have := dcells_one t
    rw [Array.all_eq_true_iff_forall_mem] at this
    exact this v (by simpa using hv))
  have e4 : t.cells.length = 14 := rfl
  have e7 : z.cells.toArray.size = 14 := rfl
  have e6 : (z.cells.toArray.toList.take 0 ++ t.cells ++ z.cells.toArray.toList.drop (0 + t.cells.length)).toArray = t.cells.toArray := by simp [Dl.cells, Pt.cells]
  have hr : (Instr.storeAt 149 (.pointer (some ⟨g, 0, none⟩)) (dlV t)).run Try.prog w = .ok () (w.setRow g t.cells.toArray) := by
    have hs := sDelta
    cases hq : Try.prog.info? 149 with
    | none => rw [hq] at hs; cases hs
    | some i0 =>
      rw [hq] at hs
      have hz1 : i0.size = 14 := by simpa using hs
      have e3 : (dlV t).cells = t.cells.toArray := rfl
      have e5 : t.cells.toArray.size = 14 := rfl
      simp only [Nat.add_zero, e6] at hst
      simp only [Instr.storeAt, Instr.sureAddr, Sem.run_bind, Sem.run_pure, Result.andThen_ok, storeVar]
      simp [sizeOf, typeInfo, hq, hz1, e3, e4, e5, hst]
  unfold execOp
  simp only [hop, hx, hy, hr, Sem.run_bind, Result.andThen_ok]
  rfl
theorem range_dl {w : World} {b : Nat} {x : Dl} {T : TypeId} (h : w.heap[b]? = some (.cells x.cells.toArray T (0, 0))) : w.rangeAt b 0 x.cells := fun j u hu => by
  rw [Nat.zero_add, cell_of_row _ _ _ _ _ _ h, ← Array.getElem?_toList]
  simpa using hu
theorem range_rd {w : World} {b p : Nat} {x : Dl} {T : TypeId} (h : w.heap[b]? = some (.cells (rdCells p x) T (0, 0))) : w.rangeAt b 1 x.cells := fun j u hu => by
  rw [cell_of_row _ _ _ _ _ _ h, ← Array.getElem?_toList, show (rdCells p x).toList = .pointer (some ⟨p, 0, none⟩) :: x.cells from rfl, Nat.add_comm, List.getElem?_cons_succ]
  exact hu

set_option maxHeartbeats 12800000 in
theorem dGet1_any {w0 : World} (w : World) (B p : Nat) (v : Value) (st : PSt) (h : EyL w0 w B p v st) (hw0 : w0.heap.size ≤ w.heap.size) (hd : (headE st).1.d = 1) :
    Calls Try.prog 149 #[.pointer (some ⟨p, 0, none⟩)] w (GetPost w0 w B p v st) := by
  have HW0 := hid hw0
  have hpw := h.lt
  have HP := hid hpw
  have k1 : Keeps [] w (w.alloc (.cells dZ.cells.toArray 149)) := (Keeps.refl [] w).alloc _
  have k2 : Keeps [] w ((w.alloc (.cells dZ.cells.toArray 149)).alloc (.cells (rdCells p dZ) 231)) := k1.alloc _
  have E0 := hid (h.more k2)
  have D0 : Hid (((w.alloc (.cells dZ.cells.toArray 149)).alloc (.cells (rdCells p dZ) 231)).heap[w.heap.size]? = some (.cells dZ.cells.toArray 149 (0, 0))) := hid (((Keeps.refl [] (w.alloc (.cells dZ.cells.toArray 149))).alloc _).block _ (by simp) (by simp) |>.trans (heap_alloc_new w _))
  have b3 := heap_alloc_new (w.alloc (.cells dZ.cells.toArray 149)) (.cells (rdCells p dZ) 231)
  rw [World.size_alloc] at b3
  have C3 := hid b3
  have K0 := hid k2
  have HS0 := hid (show w.heap.size + 1 < ((w.alloc (.cells dZ.cells.toArray 149)).alloc (.cells (rdCells p dZ) 231)).heap.size by simp)
  obtain ⟨xz, sz, ez⟩ : ∃ x s, getC st = (x, s) := ⟨_, _, rfl⟩
  have EZ := hid (show ({ (headE st).1 with t := getA (headE st).2 } = xz ∧ (getP (headE st).2).2 = sz) by
    unfold getC at ez
    rw [if_pos hd] at ez
    simpa using ez)
  have EQ := hid ez
  obtain ⟨x0, s0, e0⟩ : ∃ x s, headE st = (x, s) := ⟨_, _, rfl⟩
  rw [e0] at EZ hd
  simp only at EZ hd
  have HN := hid (dNums_any ((w.alloc (.cells dZ.cells.toArray 149)).alloc (.cells (rdCells p dZ) 231)) B p (w.heap.size + 1) v st E0.out (by have := HW0.out; omega) C3.out (by have := HP.out; omega))
  rw [e0] at HN
  have HD := hid hd
  clear h hw0 hpw k1 k2 b3 ez e0 hd
  go_enter Try.func149, Try.ntmps149
  go_wp2_with (first | (refine wpList_is rfl _ _ (exec_alloc 149 dZ.cells.toArray iDelta rfl) ?_) | (refine wpList_is rfl _ _ (exec_buildRd _ p rfl rfl) ?_) | (refine wpList_is rfl _ _ (exec_box 231 _ (rdCells p dZ) rfl rfl) ?_) | fail)
  refine HN.out.mono ?_
  rintro e u0 ⟨rfl, ey, jb, kk⟩
  have T0 := hid ey
  have J0 := hid jb
  have G0 := hid ((kk.block w.heap.size (by have := HS0.out; omega) (by have := HP.out; simp; omega)).trans D0.out)
  have KU0 := hid ((K0.out.mono (S' := [p]) (by simp)).trans' kk (fun i hi hm => by simp at hm ⊢; omega))
  clear ey jb kk
  go_wp2_with fail
  refine (dPtrs1_any J0.out HD.out).mono ?_
  rintro e u1 ⟨rfl, hu⟩
  have kp : Keeps [] u0 u1 := by rw [hu]; exact (Keeps.refl [] u0).alloc _
  have CB : Hid (u1.heap[u0.heap.size]? = some (.cells #[fnV 195 (w.heap.size + 1)] 1 (0, 0))) := hid (by rw [hu]; exact heap_alloc_new u0 _)
  have T1 := hid (T0.out.more kp)
  have J1 := hid ((kp.block _ (lt_of_block J0.out) (by simp)).trans J0.out)
  have G1 := hid ((kp.block _ (lt_of_block G0.out) (by simp)).trans G0.out)
  have KU1 := hid (KU0.out.trans (kp.mono (by simp)))
  have HG := hid (show u0.heap.size ≠ p ∧ u0.heap.size ≠ w.heap.size + 1 ∧ u0.heap.size ≠ w.heap.size by have := lt_of_block J0.out; have := HP.out; omega)
  clear hu kp
  generalize hgg : u0.heap.size = g at CB HG ⊢
  clear hgg
  go_wp2_with fail
  obtain ⟨xs, hxs⟩ : ∃ f : Nat → Dl, f = fun k => if k = 0 then x0 else xz := ⟨_, rfl⟩
  obtain ⟨ss, hss⟩ : ∃ f : Nat → PSt, f = fun k => if k = 0 then s0 else sz := ⟨_, rfl⟩
  have HX := hid hxs
  have HSS := hid hss
  clear hxs hss
  go_loopw [16] (fun iv wr => ∃ k : Nat, k ≤ 1 ∧ iv = .int .i64 k ∧ Hid (EyL w0 wr B p v (ss k)) ∧ Hid (wr.heap[w.heap.size + 1]? = some (.cells (rdCells p (xs k)) 231 (0, 0))) ∧ Hid (wr.heap[w.heap.size]? = some (.cells dZ.cells.toArray 149 (0, 0))) ∧ Hid (wr.heap[g]? = some (.cells #[fnV 195 (w.heap.size + 1)] 1 (0, 0))) ∧ Hid (Keeps [p] w wr)) (fun iv _ => 1 - (intOf iv).toNat)
  case atStart => exact ⟨0, by omega, rfl, hid (by rw [HSS.out]; exact T1.out), hid (by rw [HX.out]; exact J1.out), G1, CB, KU1⟩
  case round =>
    obtain ⟨k, hk, rfl, FE, FB, FR, FC, FK⟩ := hrel
    rcases Nat.lt_or_ge k 1 with hlt | hge
    · obtain rfl : k = 0 := by omega
      have XI : Hid (xs 0 = x0) := hid (by rw [HX.out]; rfl)
      have SI : Hid (ss 0 = s0) := hid (by rw [HSS.out]; rfl)
      obtain ⟨cf, ff⟩ := five_cells FC.out 0
      change wr.cell? ⟨g, 0, none⟩ = some (fnV 195 (w.heap.size + 1)) at cf
      unfold fnV at cf
      clear ff
      go_wp2_with fail
      refine (dTo_any wr B p (w.heap.size + 1) v (ss 0) (xs 0) FE.out (by have := HW0.out; omega) FB.out (by have := HP.out; omega)).mono ?_
      rintro e u2 ⟨rfl, ey, jb, kk⟩
      have T2 := hid ey
      have J2 := hid jb
      have G2 := hid ((kk.block w.heap.size (lt_of_block FR.out) (by have := HP.out; simp; omega)).trans FR.out)
      have C2 := hid ((kk.block g (lt_of_block FC.out) (by have := HG.out; simp; omega)).trans FC.out)
      have K2 := hid (FK.out.trans' kk (fun i hi hm => by simp at hm ⊢; omega))
      clear ey jb kk cf
      go_wp2_with fail
      go_roundw
      case rel => exact ⟨1, by omega, by go_num, hid (by have := T2.out; rw [SI.out] at this; rw [HSS.out]; exact (EZ.out.2 ▸ this)), hid (by have := J2.out; rw [SI.out, XI.out] at this; rw [HX.out]; exact (EZ.out.1 ▸ this)), G2, C2, K2⟩
      case measure => simp [intOf]
    · obtain rfl : k = 1 := by omega
      have FE : Hid (EyL w0 wr B p v sz) := hid (by have := FE.out; rw [HSS.out] at this; exact this)
      have FB : Hid (wr.heap[w.heap.size + 1]? = some (.cells (rdCells p xz) 231 (0, 0))) := hid (by have := FB.out; rw [HX.out] at this; exact this)
      by_cases hz : sz.2 = 0
      · have HZ := hid hz
        have hzb : (sz.2 == 0) = true := by simpa using hz
        clear hz
        cases hm : mayL xz with
        | false =>
          have HM := hid hm
          clear hm
          go_wp2_with fail
          refine (FE.out.fail).mono ?_
          rintro e _ ⟨rfl, rfl⟩
          go_wp2_with (first | (refine wpList_isW rfl _ _ (exec_load _ _ _ _ rfl rfl (loadDl_run _ (w.heap.size + 1) 1 xz (range_rd FB.out))) ?_) | fail)
          refine (dMay_any _ xz).mono ?_
          rintro e u9 ⟨rfl, k9⟩
          rw [HM.out]
          have FE9 := hid (FE.out.more k9)
          have FR9 := hid ((k9.block _ (lt_of_block FR.out) (by simp)).trans FR.out)
          have FK9 := hid (FK.out.trans (k9.mono (by simp)))
          clear k9
          obtain ⟨r1, r2⟩ := setRow_keepsP (cs := dZ.cells.toArray) FR9.out
          have R1 := hid r1
          have R2 := hid r2
          clear r1 r2
          go_wp2_with (first | (refine wpList_is rfl _ _ (exec_buildDlZ rfl) ?_) | (refine wpList_noval rfl _ (exec_storeDl _ _ rfl w.heap.size rfl dZ 149 FR9.out dZ rfl) ?_) | fail)
          refine bodyPost_ret (dl_ret2 rfl rfl (range_dl R1.out) rfl) rfl ?_
          refine ⟨by rw [EQ.out]; unfold getO; rw [if_neg (by simp [HZ.out]), HM.out]; rfl, by rw [EQ.out]; exact FE9.out.later R2.out HW0.out (by have := HP.out; omega), FK9.out.trans' R2.out (fun i hi hm => by simp at hm; omega)⟩
        | true =>
          have HM := hid hm
          clear hm
          go_wp2_with fail
          refine (FE.out.fail).mono ?_
          rintro e _ ⟨rfl, rfl⟩
          go_wp2_with (first | (refine wpList_isW rfl _ _ (exec_load _ _ _ _ rfl rfl (loadDl_run _ (w.heap.size + 1) 1 xz (range_rd FB.out))) ?_) | fail)
          refine (dMay_any _ xz).mono ?_
          rintro e u9 ⟨rfl, k9⟩
          rw [HM.out]
          have FE9 := hid (FE.out.more k9)
          have FB9 := hid ((k9.block _ (lt_of_block FB.out) (by simp)).trans FB.out)
          have FR9 := hid ((k9.block _ (lt_of_block FR.out) (by simp)).trans FR.out)
          have FK9 := hid (FK.out.trans (k9.mono (by simp)))
          clear k9
          obtain ⟨r1, r2⟩ := setRow_keepsP (cs := xz.cells.toArray) FR9.out
          have R1 := hid r1
          have R2 := hid r2
          clear r1 r2
          go_wp2_with (first | (refine wpList_isW rfl _ _ (exec_load _ _ _ _ rfl rfl (loadDl_run _ (w.heap.size + 1) 1 xz (range_rd FB9.out))) ?_) | (refine wpList_noval rfl _ (exec_storeDl _ _ rfl w.heap.size rfl dZ 149 FR9.out xz rfl) ?_) | fail)
          refine bodyPost_ret (dl_ret2 rfl rfl (range_dl R1.out) rfl) rfl ?_
          refine ⟨by rw [EQ.out]; unfold getO; rw [if_neg (by simp [HZ.out]), if_pos HM.out]; rfl, by rw [EQ.out]; exact FE9.out.later R2.out HW0.out (by have := HP.out; omega), FK9.out.trans' R2.out (fun i hi hm => by simp at hm; omega)⟩
      · have HZ := hid hz
        have hzb : (sz.2 == 0) = false := by simpa using hz
        clear hz
        obtain ⟨r1, r2⟩ := setRow_keepsP (cs := dZ.cells.toArray) FR.out
        have R1 := hid r1
        have R2 := hid r2
        clear r1 r2
        go_wp2_with fail
        refine (FE.out.fail).mono ?_
        rintro e _ ⟨rfl, rfl⟩
        go_wp2_with (first | (refine wpList_is rfl _ _ (exec_buildDlZ rfl) ?_) | (refine wpList_noval rfl _ (exec_storeDl _ _ rfl w.heap.size rfl dZ 149 FR.out dZ rfl) ?_) | fail)
        refine bodyPost_ret (dl_ret2 rfl rfl (range_dl R1.out) rfl) rfl ?_
        refine ⟨by rw [EQ.out]; unfold getO; rw [if_pos HZ.out]; rfl, by rw [EQ.out]; exact FE.out.later R2.out HW0.out (by have := HP.out; omega), FK.out.trans' R2.out (fun i hi hm => by simp at hm; omega)⟩

set_option maxHeartbeats 12800000 in
theorem dGet3_any {w0 : World} (w : World) (B p : Nat) (v : Value) (st : PSt) (h : EyL w0 w B p v st) (hw0 : w0.heap.size ≤ w.heap.size) (hd : (headE st).1.d = 3) :
    Calls Try.prog 149 #[.pointer (some ⟨p, 0, none⟩)] w (GetPost w0 w B p v st) := by
  have HW0 := hid hw0
  have hpw := h.lt
  have HP := hid hpw
  have k1 : Keeps [] w (w.alloc (.cells dZ.cells.toArray 149)) := (Keeps.refl [] w).alloc _
  have k2 : Keeps [] w ((w.alloc (.cells dZ.cells.toArray 149)).alloc (.cells (rdCells p dZ) 231)) := k1.alloc _
  have E0 := hid (h.more k2)
  have D0 : Hid (((w.alloc (.cells dZ.cells.toArray 149)).alloc (.cells (rdCells p dZ) 231)).heap[w.heap.size]? = some (.cells dZ.cells.toArray 149 (0, 0))) := hid (((Keeps.refl [] (w.alloc (.cells dZ.cells.toArray 149))).alloc _).block _ (by simp) (by simp) |>.trans (heap_alloc_new w _))
  have b3 := heap_alloc_new (w.alloc (.cells dZ.cells.toArray 149)) (.cells (rdCells p dZ) 231)
  rw [World.size_alloc] at b3
  have C3 := hid b3
  have K0 := hid k2
  have HS0 := hid (show w.heap.size + 1 < ((w.alloc (.cells dZ.cells.toArray 149)).alloc (.cells (rdCells p dZ) 231)).heap.size by simp)
  obtain ⟨xz, sz, ez⟩ : ∃ x s, getC st = (x, s) := ⟨_, _, rfl⟩
  have EZ := hid (show ({ (headE st).1 with o := getA (headE st).2, t := getA (getP (headE st).2).2 } = xz ∧ (getP (getP (headE st).2).2).2 = sz) by
    unfold getC at ez
    rw [if_neg (by omega), if_pos hd] at ez
    simpa using ez)
  have EQ := hid ez
  obtain ⟨x0, s0, e0⟩ : ∃ x s, headE st = (x, s) := ⟨_, _, rfl⟩
  rw [e0] at EZ hd
  simp only at EZ hd
  have HN := hid (dNums_any ((w.alloc (.cells dZ.cells.toArray 149)).alloc (.cells (rdCells p dZ) 231)) B p (w.heap.size + 1) v st E0.out (by have := HW0.out; omega) C3.out (by have := HP.out; omega))
  rw [e0] at HN
  have HD := hid hd
  clear h hw0 hpw k1 k2 b3 ez e0 hd
  go_enter Try.func149, Try.ntmps149
  go_wp2_with (first | (refine wpList_is rfl _ _ (exec_alloc 149 dZ.cells.toArray iDelta rfl) ?_) | (refine wpList_is rfl _ _ (exec_buildRd _ p rfl rfl) ?_) | (refine wpList_is rfl _ _ (exec_box 231 _ (rdCells p dZ) rfl rfl) ?_) | fail)
  refine HN.out.mono ?_
  rintro e u0 ⟨rfl, ey, jb, kk⟩
  have T0 := hid ey
  have J0 := hid jb
  have G0 := hid ((kk.block w.heap.size (by have := HS0.out; omega) (by have := HP.out; simp; omega)).trans D0.out)
  have KU0 := hid ((K0.out.mono (S' := [p]) (by simp)).trans' kk (fun i hi hm => by simp at hm ⊢; omega))
  clear ey jb kk
  go_wp2_with fail
  refine (dPtrs3_any J0.out HD.out).mono ?_
  rintro e u1 ⟨rfl, hu⟩
  have kp : Keeps [] u0 u1 := by rw [hu]; exact (Keeps.refl [] u0).alloc _
  have CB : Hid (u1.heap[u0.heap.size]? = some (.cells #[fnV 196 (w.heap.size + 1), fnV 195 (w.heap.size + 1)] 1 (0, 0))) := hid (by rw [hu]; exact heap_alloc_new u0 _)
  have T1 := hid (T0.out.more kp)
  have J1 := hid ((kp.block _ (lt_of_block J0.out) (by simp)).trans J0.out)
  have G1 := hid ((kp.block _ (lt_of_block G0.out) (by simp)).trans G0.out)
  have KU1 := hid (KU0.out.trans (kp.mono (by simp)))
  have HG := hid (show u0.heap.size ≠ p ∧ u0.heap.size ≠ w.heap.size + 1 ∧ u0.heap.size ≠ w.heap.size by have := lt_of_block J0.out; have := HP.out; omega)
  clear hu kp
  generalize hgg : u0.heap.size = g at CB HG ⊢
  clear hgg
  go_wp2_with fail
  obtain ⟨xs, hxs⟩ : ∃ f : Nat → Dl, f = fun k => if k = 0 then x0 else if k = 1 then { x0 with o := getA s0 } else xz := ⟨_, rfl⟩
  obtain ⟨ss, hss⟩ : ∃ f : Nat → PSt, f = fun k => if k = 0 then s0 else if k = 1 then (getP s0).2 else sz := ⟨_, rfl⟩
  have HX := hid hxs
  have HSS := hid hss
  clear hxs hss
  go_loopw [16] (fun iv wr => ∃ k : Nat, k ≤ 2 ∧ iv = .int .i64 k ∧ Hid (EyL w0 wr B p v (ss k)) ∧ Hid (wr.heap[w.heap.size + 1]? = some (.cells (rdCells p (xs k)) 231 (0, 0))) ∧ Hid (wr.heap[w.heap.size]? = some (.cells dZ.cells.toArray 149 (0, 0))) ∧ Hid (wr.heap[g]? = some (.cells #[fnV 196 (w.heap.size + 1), fnV 195 (w.heap.size + 1)] 1 (0, 0))) ∧ Hid (Keeps [p] w wr)) (fun iv _ => 2 - (intOf iv).toNat)
  case atStart => exact ⟨0, by omega, rfl, hid (by rw [HSS.out]; exact T1.out), hid (by rw [HX.out]; exact J1.out), G1, CB, KU1⟩
  case round =>
    obtain ⟨k, hk, rfl, FE, FB, FR, FC, FK⟩ := hrel
    rcases Nat.lt_or_ge k 1 with hlt | hge
    · obtain rfl : k = 0 := by omega
      have XI : Hid (xs 0 = x0) := hid (by rw [HX.out]; rfl)
      have SI : Hid (ss 0 = s0) := hid (by rw [HSS.out]; rfl)
      obtain ⟨cf, ff⟩ := five_cells FC.out 0
      change wr.cell? ⟨g, 0, none⟩ = some (fnV 196 (w.heap.size + 1)) at cf
      unfold fnV at cf
      clear ff
      go_wp2_with fail
      refine (dOld_any wr B p (w.heap.size + 1) v (ss 0) (xs 0) FE.out (by have := HW0.out; omega) FB.out (by have := HP.out; omega)).mono ?_
      rintro e u2 ⟨rfl, ey, jb, kk⟩
      have T2 := hid ey
      have J2 := hid jb
      have G2 := hid ((kk.block w.heap.size (lt_of_block FR.out) (by have := HP.out; simp; omega)).trans FR.out)
      have C2 := hid ((kk.block g (lt_of_block FC.out) (by have := HG.out; simp; omega)).trans FC.out)
      have K2 := hid (FK.out.trans' kk (fun i hi hm => by simp at hm ⊢; omega))
      clear ey jb kk cf
      go_wp2_with fail
      go_roundw
      case rel => exact ⟨1, by omega, by go_num, hid (by have := T2.out; rw [SI.out] at this; rw [HSS.out]; exact this), hid (by have := J2.out; rw [SI.out, XI.out] at this; rw [HX.out]; exact this), G2, C2, K2⟩
      case measure => simp [intOf]
    rcases Nat.lt_or_ge k 2 with hlt | hge2
    · obtain rfl : k = 1 := by omega
      have XI : Hid (xs 1 = { x0 with o := getA s0 }) := hid (by rw [HX.out]; rfl)
      have SI : Hid (ss 1 = (getP s0).2) := hid (by rw [HSS.out]; rfl)
      obtain ⟨cf, ff⟩ := five_cells FC.out 1
      change wr.cell? ⟨g, 1, none⟩ = some (fnV 195 (w.heap.size + 1)) at cf
      unfold fnV at cf
      clear ff
      go_wp2_with fail
      refine (dTo_any wr B p (w.heap.size + 1) v (ss 1) (xs 1) FE.out (by have := HW0.out; omega) FB.out (by have := HP.out; omega)).mono ?_
      rintro e u2 ⟨rfl, ey, jb, kk⟩
      have T2 := hid ey
      have J2 := hid jb
      have G2 := hid ((kk.block w.heap.size (lt_of_block FR.out) (by have := HP.out; simp; omega)).trans FR.out)
      have C2 := hid ((kk.block g (lt_of_block FC.out) (by have := HG.out; simp; omega)).trans FC.out)
      have K2 := hid (FK.out.trans' kk (fun i hi hm => by simp at hm ⊢; omega))
      clear ey jb kk cf
      go_wp2_with fail
      go_roundw
      case rel => exact ⟨2, by omega, by go_num, hid (by have := T2.out; rw [SI.out] at this; rw [HSS.out]; exact (EZ.out.2 ▸ this)), hid (by have := J2.out; rw [SI.out, XI.out] at this; rw [HX.out]; exact (EZ.out.1 ▸ this)), G2, C2, K2⟩
      case measure => simp [intOf]
    · obtain rfl : k = 2 := by omega
      have FE : Hid (EyL w0 wr B p v sz) := hid (by have := FE.out; rw [HSS.out] at this; exact this)
      have FB : Hid (wr.heap[w.heap.size + 1]? = some (.cells (rdCells p xz) 231 (0, 0))) := hid (by have := FB.out; rw [HX.out] at this; exact this)
      by_cases hz : sz.2 = 0
      · have HZ := hid hz
        have hzb : (sz.2 == 0) = true := by simpa using hz
        clear hz
        cases hm : mayL xz with
        | false =>
          have HM := hid hm
          clear hm
          go_wp2_with fail
          refine (FE.out.fail).mono ?_
          rintro e _ ⟨rfl, rfl⟩
          go_wp2_with (first | (refine wpList_isW rfl _ _ (exec_load _ _ _ _ rfl rfl (loadDl_run _ (w.heap.size + 1) 1 xz (range_rd FB.out))) ?_) | fail)
          refine (dMay_any _ xz).mono ?_
          rintro e u9 ⟨rfl, k9⟩
          rw [HM.out]
          have FE9 := hid (FE.out.more k9)
          have FR9 := hid ((k9.block _ (lt_of_block FR.out) (by simp)).trans FR.out)
          have FK9 := hid (FK.out.trans (k9.mono (by simp)))
          clear k9
          obtain ⟨r1, r2⟩ := setRow_keepsP (cs := dZ.cells.toArray) FR9.out
          have R1 := hid r1
          have R2 := hid r2
          clear r1 r2
          go_wp2_with (first | (refine wpList_is rfl _ _ (exec_buildDlZ rfl) ?_) | (refine wpList_noval rfl _ (exec_storeDl _ _ rfl w.heap.size rfl dZ 149 FR9.out dZ rfl) ?_) | fail)
          refine bodyPost_ret (dl_ret2 rfl rfl (range_dl R1.out) rfl) rfl ?_
          refine ⟨by rw [EQ.out]; unfold getO; rw [if_neg (by simp [HZ.out]), HM.out]; rfl, by rw [EQ.out]; exact FE9.out.later R2.out HW0.out (by have := HP.out; omega), FK9.out.trans' R2.out (fun i hi hm => by simp at hm; omega)⟩
        | true =>
          have HM := hid hm
          clear hm
          go_wp2_with fail
          refine (FE.out.fail).mono ?_
          rintro e _ ⟨rfl, rfl⟩
          go_wp2_with (first | (refine wpList_isW rfl _ _ (exec_load _ _ _ _ rfl rfl (loadDl_run _ (w.heap.size + 1) 1 xz (range_rd FB.out))) ?_) | fail)
          refine (dMay_any _ xz).mono ?_
          rintro e u9 ⟨rfl, k9⟩
          rw [HM.out]
          have FE9 := hid (FE.out.more k9)
          have FB9 := hid ((k9.block _ (lt_of_block FB.out) (by simp)).trans FB.out)
          have FR9 := hid ((k9.block _ (lt_of_block FR.out) (by simp)).trans FR.out)
          have FK9 := hid (FK.out.trans (k9.mono (by simp)))
          clear k9
          obtain ⟨r1, r2⟩ := setRow_keepsP (cs := xz.cells.toArray) FR9.out
          have R1 := hid r1
          have R2 := hid r2
          clear r1 r2
          go_wp2_with (first | (refine wpList_isW rfl _ _ (exec_load _ _ _ _ rfl rfl (loadDl_run _ (w.heap.size + 1) 1 xz (range_rd FB9.out))) ?_) | (refine wpList_noval rfl _ (exec_storeDl _ _ rfl w.heap.size rfl dZ 149 FR9.out xz rfl) ?_) | fail)
          refine bodyPost_ret (dl_ret2 rfl rfl (range_dl R1.out) rfl) rfl ?_
          refine ⟨by rw [EQ.out]; unfold getO; rw [if_neg (by simp [HZ.out]), if_pos HM.out]; rfl, by rw [EQ.out]; exact FE9.out.later R2.out HW0.out (by have := HP.out; omega), FK9.out.trans' R2.out (fun i hi hm => by simp at hm; omega)⟩
      · have HZ := hid hz
        have hzb : (sz.2 == 0) = false := by simpa using hz
        clear hz
        obtain ⟨r1, r2⟩ := setRow_keepsP (cs := dZ.cells.toArray) FR.out
        have R1 := hid r1
        have R2 := hid r2
        clear r1 r2
        go_wp2_with fail
        refine (FE.out.fail).mono ?_
        rintro e _ ⟨rfl, rfl⟩
        go_wp2_with (first | (refine wpList_is rfl _ _ (exec_buildDlZ rfl) ?_) | (refine wpList_noval rfl _ (exec_storeDl _ _ rfl w.heap.size rfl dZ 149 FR.out dZ rfl) ?_) | fail)
        refine bodyPost_ret (dl_ret2 rfl rfl (range_dl R1.out) rfl) rfl ?_
        refine ⟨by rw [EQ.out]; unfold getO; rw [if_pos HZ.out]; rfl, by rw [EQ.out]; exact FE.out.later R2.out HW0.out (by have := HP.out; omega), FK.out.trans' R2.out (fun i hi hm => by simp at hm; omega)⟩

set_option maxHeartbeats 12800000 in
theorem dGet0_any {w0 : World} (w : World) (B p : Nat) (v : Value) (st : PSt) (h : EyL w0 w B p v st) (hw0 : w0.heap.size ≤ w.heap.size) (h1 : (headE st).1.d ≠ 1) (h3 : (headE st).1.d ≠ 3) :
    Calls Try.prog 149 #[.pointer (some ⟨p, 0, none⟩)] w (GetPost w0 w B p v st) := by
  have HW0 := hid hw0
  have hpw := h.lt
  have HP := hid hpw
  have k1 : Keeps [] w (w.alloc (.cells dZ.cells.toArray 149)) := (Keeps.refl [] w).alloc _
  have k2 : Keeps [] w ((w.alloc (.cells dZ.cells.toArray 149)).alloc (.cells (rdCells p dZ) 231)) := k1.alloc _
  have E0 := hid (h.more k2)
  have D0 : Hid (((w.alloc (.cells dZ.cells.toArray 149)).alloc (.cells (rdCells p dZ) 231)).heap[w.heap.size]? = some (.cells dZ.cells.toArray 149 (0, 0))) := hid (((Keeps.refl [] (w.alloc (.cells dZ.cells.toArray 149))).alloc _).block _ (by simp) (by simp) |>.trans (heap_alloc_new w _))
  have b3 := heap_alloc_new (w.alloc (.cells dZ.cells.toArray 149)) (.cells (rdCells p dZ) 231)
  rw [World.size_alloc] at b3
  have C3 := hid b3
  have K0 := hid k2
  have HS0 := hid (show w.heap.size + 1 < ((w.alloc (.cells dZ.cells.toArray 149)).alloc (.cells (rdCells p dZ) 231)).heap.size by simp)
  obtain ⟨xz, sz, ez⟩ : ∃ x s, getC st = (x, s) := ⟨_, _, rfl⟩
  have EZ := hid (show (headE st).1 = xz ∧ (headE st).2 = sz by
    unfold getC at ez
    rw [if_neg h1, if_neg h3] at ez
    rw [ez]; exact ⟨rfl, rfl⟩)
  have EQ := hid ez
  obtain ⟨x0, s0, e0⟩ : ∃ x s, headE st = (x, s) := ⟨_, _, rfl⟩
  rw [e0] at EZ h1 h3
  simp only at EZ h1 h3
  have HN := hid (dNums_any ((w.alloc (.cells dZ.cells.toArray 149)).alloc (.cells (rdCells p dZ) 231)) B p (w.heap.size + 1) v st E0.out (by have := HW0.out; omega) C3.out (by have := HP.out; omega))
  rw [e0] at HN
  have HD := hid (And.intro h1 h3)
  clear h hw0 hpw k1 k2 b3 ez e0 h1 h3
  go_enter Try.func149, Try.ntmps149
  go_wp2_with (first | (refine wpList_is rfl _ _ (exec_alloc 149 dZ.cells.toArray iDelta rfl) ?_) | (refine wpList_is rfl _ _ (exec_buildRd _ p rfl rfl) ?_) | (refine wpList_is rfl _ _ (exec_box 231 _ (rdCells p dZ) rfl rfl) ?_) | fail)
  refine HN.out.mono ?_
  rintro e u0 ⟨rfl, ey, jb, kk⟩
  have T0 := hid ey
  have J0 := hid jb
  have G0 := hid ((kk.block w.heap.size (by have := HS0.out; omega) (by have := HP.out; simp; omega)).trans D0.out)
  have KU0 := hid ((K0.out.mono (S' := [p]) (by simp)).trans' kk (fun i hi hm => by simp at hm ⊢; omega))
  clear ey jb kk
  go_wp2_with fail
  refine (dPtrs0_any J0.out HD.out.1 HD.out.2).mono ?_
  rintro e u1 ⟨rfl, hu⟩
  rw [hu]
  clear hu
  go_wp2_with fail
  go_loopw [16] (fun iv wr => iv = .int .i64 0 ∧ u0 = wr) (fun _ _ => 0)
  case atStart => exact ⟨rfl, rfl⟩
  case round =>
    obtain ⟨rfl, hw⟩ := hrel
    rw [← hw]
    clear hw
    have FE : Hid (EyL w0 u0 B p v sz) := hid (EZ.out.2 ▸ T0.out)
    have FB : Hid (u0.heap[w.heap.size + 1]? = some (.cells (rdCells p xz) 231 (0, 0))) := hid (EZ.out.1 ▸ J0.out)
    have FR := G0
    have FK := KU0
    by_cases hz : sz.2 = 0
    · have HZ := hid hz
      have hzb : (sz.2 == 0) = true := by simpa using hz
      clear hz
      cases hm : mayL xz with
      | false =>
        have HM := hid hm
        clear hm
        go_wp2_with fail
        refine (FE.out.fail).mono ?_
        rintro e _ ⟨rfl, rfl⟩
        go_wp2_with (first | (refine wpList_isW rfl _ _ (exec_load _ _ _ _ rfl rfl (loadDl_run _ (w.heap.size + 1) 1 xz (range_rd FB.out))) ?_) | fail)
        refine (dMay_any _ xz).mono ?_
        rintro e u9 ⟨rfl, k9⟩
        rw [HM.out]
        have FE9 := hid (FE.out.more k9)
        have FR9 := hid ((k9.block _ (lt_of_block FR.out) (by simp)).trans FR.out)
        have FK9 := hid (FK.out.trans (k9.mono (by simp)))
        clear k9
        obtain ⟨r1, r2⟩ := setRow_keepsP (cs := dZ.cells.toArray) FR9.out
        have R1 := hid r1
        have R2 := hid r2
        clear r1 r2
        go_wp2_with (first | (refine wpList_is rfl _ _ (exec_buildDlZ rfl) ?_) | (refine wpList_noval rfl _ (exec_storeDl _ _ rfl w.heap.size rfl dZ 149 FR9.out dZ rfl) ?_) | fail)
        refine bodyPost_ret (dl_ret2 rfl rfl (range_dl R1.out) rfl) rfl ?_
        refine ⟨by rw [EQ.out]; unfold getO; rw [if_neg (by simp [HZ.out]), HM.out]; rfl, by rw [EQ.out]; exact FE9.out.later R2.out HW0.out (by have := HP.out; omega), FK9.out.trans' R2.out (fun i hi hm => by simp at hm; omega)⟩
      | true =>
        have HM := hid hm
        clear hm
        go_wp2_with fail
        refine (FE.out.fail).mono ?_
        rintro e _ ⟨rfl, rfl⟩
        go_wp2_with (first | (refine wpList_isW rfl _ _ (exec_load _ _ _ _ rfl rfl (loadDl_run _ (w.heap.size + 1) 1 xz (range_rd FB.out))) ?_) | fail)
        refine (dMay_any _ xz).mono ?_
        rintro e u9 ⟨rfl, k9⟩
        rw [HM.out]
        have FE9 := hid (FE.out.more k9)
        have FB9 := hid ((k9.block _ (lt_of_block FB.out) (by simp)).trans FB.out)
        have FR9 := hid ((k9.block _ (lt_of_block FR.out) (by simp)).trans FR.out)
        have FK9 := hid (FK.out.trans (k9.mono (by simp)))
        clear k9
        obtain ⟨r1, r2⟩ := setRow_keepsP (cs := xz.cells.toArray) FR9.out
        have R1 := hid r1
        have R2 := hid r2
        clear r1 r2
        go_wp2_with (first | (refine wpList_isW rfl _ _ (exec_load _ _ _ _ rfl rfl (loadDl_run _ (w.heap.size + 1) 1 xz (range_rd FB9.out))) ?_) | (refine wpList_noval rfl _ (exec_storeDl _ _ rfl w.heap.size rfl dZ 149 FR9.out xz rfl) ?_) | fail)
        refine bodyPost_ret (dl_ret2 rfl rfl (range_dl R1.out) rfl) rfl ?_
        refine ⟨by rw [EQ.out]; unfold getO; rw [if_neg (by simp [HZ.out]), if_pos HM.out]; rfl, by rw [EQ.out]; exact FE9.out.later R2.out HW0.out (by have := HP.out; omega), FK9.out.trans' R2.out (fun i hi hm => by simp at hm; omega)⟩
    · have HZ := hid hz
      have hzb : (sz.2 == 0) = false := by simpa using hz
      clear hz
      obtain ⟨r1, r2⟩ := setRow_keepsP (cs := dZ.cells.toArray) FR.out
      have R1 := hid r1
      have R2 := hid r2
      clear r1 r2
      go_wp2_with fail
      refine (FE.out.fail).mono ?_
      rintro e _ ⟨rfl, rfl⟩
      go_wp2_with (first | (refine wpList_is rfl _ _ (exec_buildDlZ rfl) ?_) | (refine wpList_noval rfl _ (exec_storeDl _ _ rfl w.heap.size rfl dZ 149 FR.out dZ rfl) ?_) | fail)
      refine bodyPost_ret (dl_ret2 rfl rfl (range_dl R1.out) rfl) rfl ?_
      refine ⟨by rw [EQ.out]; unfold getO; rw [if_pos HZ.out]; rfl, by rw [EQ.out]; exact FE.out.later R2.out HW0.out (by have := HP.out; omega), FK.out.trans' R2.out (fun i hi hm => by simp at hm; omega)⟩

theorem dGet_any {w0 : World} (w : World) (B p : Nat) (v : Value) (st : PSt) (h : EyL w0 w B p v st) (hw0 : w0.heap.size ≤ w.heap.size) :
    Calls Try.prog 149 #[.pointer (some ⟨p, 0, none⟩)] w (GetPost w0 w B p v st) := by
  by_cases h1 : (headE st).1.d = 1
  · exact dGet1_any w B p v st h hw0 h1
  · by_cases h3 : (headE st).1.d = 3
    · exact dGet3_any w B p v st h hw0 h3
    · exact dGet0_any w B p v st h hw0 h1 h3
end Go.Proofs.Ytoglcohdanpciaa
