/- blocks: the walk of the law BlocksRace. -/
import Derived.Test.YtdfhoanilbfkiaaBkMovesW
import Derived.Test.YtdfhoanilbfkiaaBkR
namespace Go.Proofs.Ytdfhoanilbfkiaa
open Go.RowKit Go.Shelf
set_option maxRecDepth 100000
set_option linter.unusedSimpArgs false

theorem put_step (s : Bk) (k : Nat) (a : Pt) (hk : k < 64) (ha : mayP a = true) :
    stepD s ⟨1, 2, (k : Int), (k : Int) * 64 + 1, a, pZ⟩ = ⟨max s.sz ((k : Int) * 64 + 1), (fitL s.L (cnt (max s.sz ((k : Int) * 64 + 1)))).set k a⟩ := by
  have h1 : mayD s ⟨1, 2, (k : Int), (k : Int) * 64 + 1, a, pZ⟩ = true := by
    unfold mayD
    simp only [if_true, ha, Bool.and_true]
    rw [Bool.and_eq_true]
    exact ⟨btw_is.2 ⟨by omega, by omega⟩, btw_is.2 ⟨by omega, by omega⟩⟩
  unfold stepD
  rw [if_pos h1]
  unfold doD
  simp only [if_true, Int.toNat_natCast]
theorem put_len (s : Bk) (k : Nat) : k < cnt (max s.sz ((k : Int) * 64 + 1)) := by unfold cnt; omega
theorem put_at (s : Bk) (k : Nat) (a : Pt) (hk : k < 64) (ha : mayP a = true) : atB (stepD s ⟨1, 2, (k : Int), (k : Int) * 64 + 1, a, pZ⟩).L (k : Int) = a := by
  rw [put_step s k a hk ha]
  unfold atB
  rw [if_pos (by omega), Int.toNat_natCast, List.getD_eq_getElem?_getD, List.getElem?_set_self (by rw [fitL_len]; exact put_len s k)]
  rfl
theorem fit_set (L : List Pt) (n k : Nat) (b : Pt) (hk : k < L.length) (hn : k < n) : fitL (L.set k b) n = (fitL L n).set k b := by
  unfold fitL
  rw [List.take_set, List.length_set, List.set_append_left _ _ (by rw [List.length_take]; omega)]
theorem stepD_no {s : Bk} {x : Dl} (h : mayD s x = false) : stepD s x = s := by unfold stepD; rw [if_neg (by rw [h]; simp)]
/-- Both orders leave what was put. -/
theorem race_x (s : Bk) (k : Nat) (a b : Pt) (hk : k < 64) (ha : mayP a = true) (hne : atB s.L (k : Int) ≠ a) :
    stepD (stepD s ⟨1, 2, (k : Int), (k : Int) * 64 + 1, a, pZ⟩) ⟨3, 2, (k : Int), 0, b, atB s.L (k : Int)⟩ = stepD s ⟨1, 2, (k : Int), (k : Int) * 64 + 1, a, pZ⟩ := by
  have h1 : mayD (stepD s ⟨1, 2, (k : Int), (k : Int) * 64 + 1, a, pZ⟩) ⟨3, 2, (k : Int), 0, b, atB s.L (k : Int)⟩ = false := by
    unfold mayD
    simp only [show ¬ ((3 : Int) = 1) by decide, show ¬ ((3 : Int) = 2) by decide, if_false, if_true]
    rw [put_at s k a hk ha]
    have : eqP a (atB s.L (k : Int)) = false := by
      cases hq : eqP a (atB s.L (k : Int)) with
      | false => rfl
      | true => exact absurd (eqP_is.1 hq).symm hne
    rw [this]
    simp
  exact stepD_no h1
theorem race_y (s : Bk) (k : Nat) (a b : Pt) (hk : k < 64) (ha : mayP a = true) :
    stepD (stepD s ⟨3, 2, (k : Int), 0, b, atB s.L (k : Int)⟩) ⟨1, 2, (k : Int), (k : Int) * 64 + 1, a, pZ⟩ = stepD s ⟨1, 2, (k : Int), (k : Int) * 64 + 1, a, pZ⟩ := by
  cases hm : mayD s ⟨3, 2, (k : Int), 0, b, atB s.L (k : Int)⟩ with
  | false =>
    have : stepD s ⟨3, 2, (k : Int), 0, b, atB s.L (k : Int)⟩ = s := by unfold stepD; rw [if_neg (by rw [hm]; simp)]
    rw [this]
  | true =>
    have h2 := hm
    unfold mayD at h2
    simp only [show ¬ ((3 : Int) = 1) by decide, show ¬ ((3 : Int) = 2) by decide, if_false, if_true, Bool.and_eq_true] at h2
    have hz : zB (atB s.L (k : Int)) = false := by
      have := h2.1.1.1
      cases hq : zB (atB s.L (k : Int)) with
      | false => rfl
      | true => rw [hq] at this; cases this
    have hat : atB s.L (k : Int) ≠ pZ := fun e => by rw [e] at hz; exact absurd hz (by decide)
    have hl := (atB_mem hat).2
    rw [Int.toNat_natCast] at hl
    have e : stepD s ⟨3, 2, (k : Int), 0, b, atB s.L (k : Int)⟩ = ⟨s.sz, s.L.set k b⟩ := by
      unfold stepD
      rw [if_pos hm]
      unfold doD
      simp only [show ¬ ((3 : Int) = 1) by decide, show ¬ ((3 : Int) = 2) by decide, if_false, Int.toNat_natCast]
    rw [e, put_step _ k a hk ha, put_step _ k a hk ha]
    simp only
    rw [fit_set _ _ _ _ hl (put_len s k), List.set_set]

set_option maxHeartbeats 12800000 in
theorem m11RaceWell_any (w : World) (v : Value) (ds : List Dl) (hv : DlsAt w v ds) (z : Int) (a b : Pt) : Calls Try.prog 28 #[v, .int .i64 z, ptV a, ptV b] w fun e w' => e = .returned (.bool true) ∧ Keeps [] w w' := by
  have HV := hid hv
  obtain ⟨ad, c, rfl⟩ := hv.shape
  clear hv
  have k1 : Keeps [] w (w.alloc (.cells a.cells.toArray 28)) := (Keeps.refl [] w).alloc _
  have k2 : Keeps [] (w.alloc (.cells a.cells.toArray 28)) ((w.alloc (.cells a.cells.toArray 28)).alloc (.cells b.cells.toArray 28)) := (Keeps.refl [] _).alloc _
  have RA := hid (range_keep (range_new w a.cells 28) k2 (by simp))
  have RB0 := range_new (w.alloc (.cells a.cells.toArray 28)) b.cells 28
  rw [World.size_alloc] at RB0
  have RB := hid RB0
  have KW := hid (k1.trans k2)
  have HSZ := hid (show w.heap.size + 1 < ((w.alloc (.cells a.cells.toArray 28)).alloc (.cells b.cells.toArray 28)).heap.size by simp)
  clear k1 k2 RB0
  by_cases hl : 60 < ds.length
  · have hl' : decide ((60 : Int) < ds.length) = true := decide_eq_true (by omega)
    have hl'' : decide (60 < ds.length) = true := decide_eq_true (by omega)
    clear hl
    go_enter Try.func28, Try.ntmps28
    go_wp2_with (first | (refine wpList_boxPt rfl _ rfl a rfl ?_) | (refine wpList_boxPt rfl _ rfl b rfl ?_) | fail)
    refine (bkAwake_any _).mono ?_
    rintro e w1 ⟨rfl, k1⟩
    have K1 := hid (KW.out.trans k1)
    clear k1
    go_wp2_with fail
    go_ret
    exact ⟨rfl, K1.out⟩
  have hl' : decide ((60 : Int) < ds.length) = false := decide_eq_false (by omega)
  have hl'' : decide (60 < ds.length) = false := decide_eq_false (by omega)
  have HL := hid hl
  clear hl
  cases hma : mayP a with
  | false =>
    have MA := hid hma
    clear hma
    go_enter Try.func28, Try.ntmps28
    go_wp2_with (first | (refine wpList_boxPt rfl _ rfl a rfl ?_) | (refine wpList_boxPt rfl _ rfl b rfl ?_) | (refine wpList_isW rfl _ _ (exec_load _ _ _ _ rfl rfl (loadPt_run _ w.heap.size 0 a RA.out)) ?_) | fail)
    refine (rMayPtr_any _ a).mono ?_
    rintro e w1 ⟨rfl, k1⟩
    have K1 := hid (KW.out.trans k1)
    clear k1
    rw [MA.out]
    go_wp2_with fail
    refine (bkAwake_any _).mono ?_
    rintro e w2 ⟨rfl, k2⟩
    have K2 := hid (K1.out.trans k2)
    clear k2
    go_wp2_with fail
    go_ret
    exact ⟨rfl, K2.out⟩
  | true =>
  have MA := hid hma
  clear hma
  cases hmb : mayP b with
  | false =>
    have MB := hid hmb
    clear hmb
    go_enter Try.func28, Try.ntmps28
    go_wp2_with (first | (refine wpList_boxPt rfl _ rfl a rfl ?_) | (refine wpList_boxPt rfl _ rfl b rfl ?_) | (refine wpList_isW rfl _ _ (exec_load _ _ _ _ rfl rfl (loadPt_run _ w.heap.size 0 a RA.out)) ?_) | fail)
    refine (rMayPtr_any _ a).mono ?_
    rintro e w1 ⟨rfl, k1⟩
    have K1 := hid (KW.out.trans k1)
    have RB1 := hid (range_keep RB.out k1 (by simp))
    clear k1
    rw [MA.out]
    go_wp2_with (first | (refine wpList_isW rfl _ _ (exec_load _ _ _ _ rfl rfl (loadPt_run _ (w.heap.size + 1) 0 b RB1.out)) ?_) | fail)
    refine (rMayPtr_any _ b).mono ?_
    rintro e w2 ⟨rfl, k2⟩
    have K2 := hid (K1.out.trans k2)
    clear k2
    rw [MB.out]
    go_wp2_with fail
    refine (bkAwake_any _).mono ?_
    rintro e w3 ⟨rfl, k3⟩
    have K3 := hid (K2.out.trans k3)
    clear k3
    go_wp2_with fail
    go_ret
    exact ⟨rfl, K3.out⟩
  | true =>
  have MB := hid hmb
  clear hmb
  obtain ⟨r, hr⟩ : ∃ r, z.tmod 64 = r := ⟨_, rfl⟩
  have hr1 : -63 ≤ r := by rw [← hr]; have := Int.lt_tmod_of_pos z (show (0 : Int) < 64 by decide); omega
  have hr2 : r ≤ 63 := by rw [← hr]; have := Int.tmod_lt_of_pos z (show (0 : Int) < 64 by decide); omega
  obtain ⟨k, hk⟩ : ∃ k : Nat, (r + 64) % 64 = (k : Int) := ⟨((r + 64) % 64).toNat, by omega⟩
  have hk64 : k < 64 := by omega
  have HK64 := hid hk64
  go_enter Try.func28, Try.ntmps28
  go_wp2_with (first | (refine wpList_boxPt rfl _ rfl a rfl ?_) | (refine wpList_boxPt rfl _ rfl b rfl ?_) | (refine wpList_isW rfl _ _ (exec_load _ _ _ _ rfl rfl (loadPt_run _ w.heap.size 0 a RA.out)) ?_) | fail)
  refine (rMayPtr_any _ a).mono ?_
  rintro e w1 ⟨rfl, k1⟩
  have K1 := hid (KW.out.trans k1)
  have RA1 := hid (range_keep RA.out k1 (by simp))
  have RB1 := hid (range_keep RB.out k1 (by simp))
  have HSZ1 := hid (show w.heap.size + 1 < w1.heap.size by have := HSZ.out; have := k1.size; omega)
  clear k1 RA RB HSZ KW
  rw [MA.out]
  go_wp2_with (first | (refine wpList_isW rfl _ _ (exec_load _ _ _ _ rfl rfl (loadPt_run _ (w.heap.size + 1) 0 b RB1.out)) ?_) | fail)
  refine (rMayPtr_any _ b).mono ?_
  rintro e w2 ⟨rfl, k2⟩
  have K2 := hid (K1.out.trans k2)
  have RA2 := hid (range_keep RA1.out k2 (by simp))
  have RB2 := hid (range_keep RB1.out k2 (by simp))
  have HSZ2 := hid (show w.heap.size + 1 < w2.heap.size by have := HSZ1.out; have := k2.size; omega)
  clear k2 RA1 RB1 HSZ1 K1
  rw [MB.out]
  obtain ⟨ga, hga⟩ : ∃ n, n = w.heap.size := ⟨_, rfl⟩
  rw [← hga] at RA2 RB2 HSZ2 ⊢
  have HWG := hid (show w.heap.size ≤ ga by omega)
  clear hga
  go_wp2_with fail
  rw [hk]
  clear hk hr hr1 hr2 hl' hl''
  have B0 := hid (bk_new w2 [])
  have K0 : Hid (Keeps [] w2 (w2.alloc (.cells #[.bool true, .int .i64 0, .slice none 0 0] 66))) := hid ((Keeps.refl [] w2).alloc _)
  refine (zNew_any w2).mono ?_
  rintro e w3 ⟨rfl, hw⟩
  rw [← hw] at B0 K0
  clear hw
  obtain ⟨m, hm⟩ : ∃ m, m = w2.heap.size := ⟨_, rfl⟩
  have K3 := hid (K2.out.trans K0.out)
  have RA3 := hid (range_keep RA2.out K0.out (by simp))
  have RB3 := hid (range_keep RB2.out K0.out (by simp))
  have HGM := hid (show ga + 1 < m by have := HSZ2.out; omega)
  rw [← hm] at B0 ⊢
  clear hm K0 K2 RA2 RB2 HSZ2
  go_wp2_with fail
  go_loopw [10] (fun iv wr => ∃ i : Nat, iv = .int .i64 i ∧ AllAt w m ds i wr ∧ Keeps [m] w3 wr) (fun iv _ => ds.length - (intOf iv).toNat)
  case atStart => exact ⟨0, rfl, ⟨Nat.zero_le _, B0.out, K3.out⟩, Keeps.refl _ _⟩
  case round =>
    obtain ⟨i, rfl, hall, hkm⟩ := hrel
    have ALL := hid hall
    have KM := hid hkm
    have hi := hall.1
    clear hall hkm
    by_cases hlt : i < ds.length
    · have hi100 : i < 100 := by have := HL.out; omega
      obtain ⟨x, hx⟩ : ∃ x, x = ds[i] := ⟨_, rfl⟩
      obtain ⟨g, off, rfl, hg, hr⟩ := (HV.out.keep ALL.out.2.2).at i hlt
      rw [← hx] at hr
      have R := hid hr
      have HX := hid hx
      clear hg hr hx
      go_wp2_with (first | (refine wpList_isW rfl _ _ (exec_load _ _ _ _ rfl rfl (loadDl_run _ g (off + i * 14) x R.out)) ?_) | fail)
      have A1 := apply_new (w := w) ALL.out.2.2 ALL.out.2.1 (fun b hb => by simp at hb; rw [hb]; exact ALL.out.2.1.lt) (by have := HWG.out; have := HGM.out; omega) x
      refine A1.mono ?_
      rintro e wb ⟨a2, c2, rfl, o2, b2, k2, z2, q2⟩
      have NX := hid (all_next ALL.out hlt (by rw [← HX.out]; exact b2) k2)
      have KM2 := hid (KM.out.trans q2)
      clear A1 o2 b2 k2 z2 q2
      go_wp2_with fail
      go_roundw
      case rel => exact ⟨i + 1, by go_num, NX.out, KM2.out⟩
      case measure => simp [intOf]; omega
    · obtain rfl : i = ds.length := by omega
      obtain ⟨s, hs⟩ : ∃ s, s = (ds.take ds.length).foldl stepD bk0 := ⟨_, rfl⟩
      obtain ⟨_, hB, hK⟩ := ALL.out
      rw [← hs] at hB
      have B := hid hB
      have K := hid hK
      have RA4 := hid (range_keep RA3.out KM.out (by have := HGM.out; simp; omega))
      have RB4 := hid (range_keep RB3.out KM.out (by have := HGM.out; simp; omega))
      clear hB hK hs ALL hlt hi KM RA3 RB3 B0 K3
      go_wp2_with fail
      refine (zAt_any B.out (k : Int)).mono ?_
      rintro e w5 ⟨rfl, k5⟩
      obtain ⟨old, hold⟩ : ∃ p, p = atB s.L (k : Int) := ⟨_, rfl⟩
      rw [← hold]
      have HOLD := hid hold
      have B5 := hid (B.out.later k5)
      have K5 := hid (K.out.trans k5)
      have RA5 := hid (range_keep RA4.out k5 (by simp))
      have RB5 := hid (range_keep RB4.out k5 (by simp))
      have ka : Keeps [] w5 (w5.alloc (.cells old.cells.toArray 28)) := (Keeps.refl [] w5).alloc _
      have RO := hid (range_new w5 old.cells 28)
      have K6 := hid (K5.out.trans ka)
      have B6 := hid (B5.out.later ka)
      have RA6 := hid (range_keep RA5.out ka (by simp))
      have RB6 := hid (range_keep RB5.out ka (by simp))
      clear k5 hold ka B K
      cases heq : eqP old a with
      | true =>
        have EQ := hid heq
        clear heq
        go_wp2_with (first | (refine wpList_is rfl _ _ (exec_alloc 28 pZ.cells.toArray iPtr2 rfl) ?_) | (refine wpList_noval rfl _ (exec_storeNew 28 _ _ rfl w5 pZ.cells.toArray old.cells.toArray rfl rfl rfl iPtr2 rfl (cells_one _)) ?_) | (refine wpList_isW rfl _ _ (exec_load _ _ _ _ rfl rfl (loadPt_run _ w5.heap.size 0 old RO.out)) ?_) | (refine wpList_isW rfl _ _ (exec_load _ _ _ _ rfl rfl (loadPt_run _ ga 0 a RA6.out)) ?_) | (refine wpList_isW rfl _ _ ((exec_eqPts _ _ _ old a rfl rfl rfl).trans (by rw [EQ.out])) ?_) | fail)
        refine (bkAwake_any _).mono ?_
        rintro e w7 ⟨rfl, k7⟩
        have K7 := hid (K6.out.trans k7)
        clear k7
        go_wp2_with fail
        go_ret
        exact ⟨rfl, K7.out⟩
      | false =>
        have EQ := hid heq
        have NEQ := hid (show atB s.L (k : Int) ≠ a from fun h => by rw [← HOLD.out] at h; rw [eqP_is.2 h] at heq; cases heq)
        clear heq
        obtain ⟨go, hgo⟩ : ∃ n, n = w5.heap.size := ⟨_, rfl⟩
        have HGO := hid hgo
        clear hgo
        obtain ⟨w6, hw6⟩ : ∃ W, W = w5.alloc (.cells old.cells.toArray 28) := ⟨_, rfl⟩
        have HW6 := hid hw6
        rw [← hw6] at K6 B6 RA6 RB6 RO
        clear hw6
        have RO6 := hid (show w6.rangeAt go 0 old.cells by have := RO.out; rw [← HGO.out] at this; exact this)
        have HM6 := hid (show m < go by rw [HGO.out]; exact B5.out.lt)
        have HS6 := hid (show go < w6.heap.size by rw [HW6.out, HGO.out]; simp)
        obtain ⟨dp, hdp⟩ : ∃ d : Dl, d = ⟨1, 2, (k : Int), (k : Int) * 64 + 1, a, pZ⟩ := ⟨_, rfl⟩
        obtain ⟨dm, hdm⟩ : ∃ d : Dl, d = ⟨3, 2, (k : Int), 0, b, old⟩ := ⟨_, rfl⟩
        have HDP := hid hdp
        have HDM := hid hdm
        clear hdp hdm RO K5 B5 RA5 RB5 RA4 RB4
        obtain ⟨w7, hw7⟩ : ∃ W, W = w6.alloc (.cells dp.cells.toArray 34) := ⟨_, rfl⟩
        have HW7 := hid hw7
        have k7 : Keeps [] w6 w7 := by rw [hw7]; exact (Keeps.refl [] w6).alloc _
        obtain ⟨gp, hgp⟩ : ∃ n, n = w6.heap.size := ⟨_, rfl⟩
        have HGP := hid hgp
        have RGP0 : w7.rangeAt gp 0 dp.cells := by rw [hw7, hgp]; exact range_new w6 dp.cells 34
        have HS7 := hid (show gp < w7.heap.size by rw [hw7, hgp]; simp)
        have RA7 := hid (range_keep RA6.out k7 (by simp))
        have RB7 := hid (range_keep RB6.out k7 (by simp))
        have RO7 := hid (range_keep RO6.out k7 (by simp))
        have K7 := hid (K6.out.trans k7)
        have B7 := hid (B6.out.later k7)
        clear hw7 hgp k7
        obtain ⟨w8, hw8⟩ : ∃ W, W = w7.alloc (.cells dm.cells.toArray 34) := ⟨_, rfl⟩
        have HW8 := hid hw8
        have k8 : Keeps [] w7 w8 := by rw [hw8]; exact (Keeps.refl [] w7).alloc _
        obtain ⟨gm, hgm⟩ : ∃ n, n = w7.heap.size := ⟨_, rfl⟩
        have HGM' := hid hgm
        have RGM0 : w8.rangeAt gm 0 dm.cells := by rw [hw8, hgm]; exact range_new w7 dm.cells 34
        have HS8 := hid (show gm < w8.heap.size by rw [hw8, hgm]; simp)
        have RA8 := hid (range_keep RA7.out k8 (by simp))
        have RP8 := hid (range_keep RGP0 k8 (by simp))
        have RM8 := hid RGM0
        have K8 := hid (K7.out.trans k8)
        have B8 := hid (B7.out.later k8)
        have HLT := hid (show go < gp ∧ gp < gm ∧ gm < w8.heap.size from ⟨by rw [HGP.out]; exact HS6.out, by rw [HGM'.out]; exact HS7.out, HS8.out⟩)
        clear hw8 hgm k8 RGP0 RGM0
        go_wp2_with (first | (refine wpList_is rfl _ _ (exec_alloc 28 pZ.cells.toArray iPtr2 rfl) ?_) | (refine wpList_noval rfl _ (exec_storeNew 28 _ _ rfl w5 pZ.cells.toArray old.cells.toArray rfl rfl rfl iPtr2 rfl (cells_one _)) ?_; rw [← HW6.out, ← HGO.out]) | (refine wpList_isW rfl _ _ (exec_load _ _ _ _ rfl rfl (loadPt_run _ go 0 old RO6.out)) ?_) | (refine wpList_isW rfl _ _ (exec_load _ _ _ _ rfl rfl (loadPt_run _ go 0 old RO7.out)) ?_) | (refine wpList_isW rfl _ _ (exec_load _ _ _ _ rfl rfl (loadPt_run _ ga 0 a RA6.out)) ?_) | (refine wpList_isW rfl _ _ (exec_load _ _ _ _ rfl rfl (loadPt_run _ (ga + 1) 0 b RB7.out)) ?_) | (refine wpList_isW rfl _ _ ((exec_eqPts _ _ _ old a rfl rfl rfl).trans (by rw [EQ.out])) ?_) | (refine wpList_is rfl _ _ ((exec_buildPut _ _ _ _ _ 1 2 (k : Int) ((k : Int) * 64 + 1) a rfl rfl rfl rfl rfl rfl).trans (by rw [← HDP.out])) ?_) | (refine wpList_is rfl _ _ ((exec_buildMove _ _ _ _ _ 3 2 (k : Int) b old rfl rfl rfl rfl rfl rfl).trans (by rw [← HDM.out])) ?_) | (refine wpList_is rfl _ _ (exec_alloc 34 (Dl.cells ⟨0, 0, 0, 0, pZ, pZ⟩).toArray iDelta rfl) ?_) | (refine wpList_noval rfl _ (exec_storeNew 34 _ _ rfl w6 (Dl.cells ⟨0, 0, 0, 0, pZ, pZ⟩).toArray dp.cells.toArray rfl rfl rfl iDelta rfl (dl_one _)) ?_; rw [← HW7.out, ← HGP.out]) | (refine wpList_noval rfl _ (exec_storeNew 34 _ _ rfl w7 (Dl.cells ⟨0, 0, 0, 0, pZ, pZ⟩).toArray dm.cells.toArray rfl rfl rfl iDelta rfl (dl_one _)) ?_; rw [← HW8.out, ← HGM'.out]) | fail)
        obtain ⟨n1, hn1⟩ : ∃ n, n = w8.heap.size := ⟨_, rfl⟩
        have HN1 := hid hn1
        have b8 := B8.out.more (N := [n1, m]) (fun b hb => by
          simp at hb
          rcases hb with rfl | rfl
          · exact Or.inr (by omega)
          · exact Or.inl (by simp)) (by simp)
        have B8n := hid b8
        clear hn1 b8
        refine (zClone_any B8.out).mono ?_
        rintro e w9 ⟨rfl, bx, k9, z9⟩
        rw [← HN1.out] at bx z9 ⊢
        have BX9 := hid bx
        have BM9 := hid (B8n.out.later k9)
        have K9 := hid (K8.out.trans k9)
        have RP9 := hid (range_keep RP8.out k9 (by simp))
        have RM9 := hid (range_keep RM8.out k9 (by simp))
        have RA9 := hid (range_keep RA8.out k9 (by simp))
        have HZ9 := hid z9
        obtain ⟨n2, hn2⟩ : ∃ n, n = w9.heap.size := ⟨_, rfl⟩
        have HN2 := hid hn2
        have BX9n := hid (BX9.out.more (N := [n2, n1, m]) (fun b hb => by
          simp at hb
          rcases hb with rfl | rfl | rfl
          · exact Or.inr (by omega)
          · exact Or.inl (by simp)
          · exact Or.inl (by simp)) (by simp))
        clear bx k9 z9 hn2 B8 B8n RP8 RM8 RA8 K8 B7 RA7 RB7 RO7 K7 B6 K6 RA6 RB6 RO6
        go_wp2_with fail
        refine (zClone_any BM9.out).mono ?_
        rintro e w10 ⟨rfl, by10, k10, z10⟩
        rw [← HN2.out] at by10 z10 ⊢
        have By10 := hid by10
        have Bx10 := hid (BX9n.out.later k10)
        have K10 := hid (K9.out.trans k10)
        have RDP10 := hid (range_keep RP9.out k10 (by simp))
        have RDM10 := hid (range_keep RM9.out k10 (by simp))
        have RA10 := hid (range_keep RA9.out k10 (by simp))
        have HNN := hid (show w.heap.size ≤ n1 ∧ n1 < n2 ∧ m < n1 ∧ ga < n1 ∧ gp < n1 ∧ gm < n1 by
          have := HN1.out; have := HLT.out; have := HM6.out; have := HGM.out; have := HWG.out; have := HN2.out; have := HZ9.out; omega)
        have HMM10 := hid (show ∀ b ∈ [n2, n1, m], b < w10.heap.size from fun b hb => by simp at hb; have := HNN.out; have := HN2.out; omega)
        clear by10 k10 z10 BX9 BX9n BM9 K9 RP9 RM9 RA9
        go_wp2_with (first | (refine wpList_isW rfl _ _ (exec_load _ _ _ _ rfl rfl (loadDl_run _ gp 0 dp RDP10.out)) ?_) | fail)
        have A1 := apply_new (w := w) K10.out Bx10.out (HMM10.out) (by have := HNN.out; omega) dp
        refine A1.mono ?_
        rintro e w11 ⟨a9, c9, rfl, o9, b9, k9, z9, q9⟩
        have Bx11 := hid b9
        have By11 := hid (By10.out.keep q9 (by have := HNN.out; simp; omega) (by simp))
        have K11 := hid k9
        have RDP11 := hid (range_keep RDP10.out q9 (by have := HNN.out; simp; omega))
        have RDM11 := hid (range_keep RDM10.out q9 (by have := HNN.out; simp; omega))
        have RA11 := hid (range_keep RA10.out q9 (by have := HNN.out; simp; omega))
        have HMM11 := hid (fun b (hb : b ∈ [n2, n1, m]) => Nat.lt_of_lt_of_le (HMM10.out b hb) z9)
        clear A1 o9 b9 k9 z9 q9 Bx10 By10 K10 RDP10 RDM10 RA10 HMM10
        have SX := hid (show stepD (stepD s dp) dm = stepD s dp by rw [HDP.out, HDM.out, HOLD.out]; exact race_x s k a b HK64.out MA.out NEQ.out)
        have SY := hid (show stepD (stepD s dm) dp = stepD s dp by rw [HDP.out, HDM.out, HOLD.out]; exact race_y s k a b HK64.out MA.out)
        have SA := hid (show atB (stepD s dp).L (k : Int) = a by rw [HDP.out]; exact put_at s k a HK64.out MA.out)
        go_wp2_with (first | (refine wpList_isW rfl _ _ (exec_load _ _ _ _ rfl rfl (loadDl_run _ gm 0 dm RDM11.out)) ?_) | fail)
        have A1 := apply_new (w := w) K11.out Bx11.out (HMM11.out) (by have := HNN.out; omega) dm
        refine A1.mono ?_
        rintro e w12 ⟨a9, c9, rfl, o9, b9, k9, z9, q9⟩
        have Bx12 := hid b9
        have By12 := hid (By11.out.keep q9 (by have := HNN.out; simp; omega) (by simp))
        have K12 := hid k9
        have RDP12 := hid (range_keep RDP11.out q9 (by have := HNN.out; simp; omega))
        have RDM12 := hid (range_keep RDM11.out q9 (by have := HNN.out; simp; omega))
        have RA12 := hid (range_keep RA11.out q9 (by have := HNN.out; simp; omega))
        have HMM12 := hid (fun b (hb : b ∈ [n2, n1, m]) => Nat.lt_of_lt_of_le (HMM11.out b hb) z9)
        clear A1 o9 b9 k9 z9 q9 Bx11 By11 K11 RDP11 RDM11 RA11 HMM11
        rw [SX.out] at Bx12
        go_wp2_with (first | (refine wpList_isW rfl _ _ (exec_load _ _ _ _ rfl rfl (loadDl_run _ gm 0 dm RDM12.out)) ?_) | fail)
        have A1 := apply_new (w := w) K12.out By12.out (HMM12.out) (by have := HNN.out; omega) dm
        refine A1.mono ?_
        rintro e w13 ⟨a9, c9, rfl, o9, b9, k9, z9, q9⟩
        have By13 := hid b9
        have Bx13 := hid (Bx12.out.keep q9 (by have := HNN.out; simp; omega) (by simp))
        have K13 := hid k9
        have RDP13 := hid (range_keep RDP12.out q9 (by have := HNN.out; simp; omega))
        have RDM13 := hid (range_keep RDM12.out q9 (by have := HNN.out; simp; omega))
        have RA13 := hid (range_keep RA12.out q9 (by have := HNN.out; simp; omega))
        have HMM13 := hid (fun b (hb : b ∈ [n2, n1, m]) => Nat.lt_of_lt_of_le (HMM12.out b hb) z9)
        clear A1 o9 b9 k9 z9 q9 Bx12 By12 K12 RDP12 RDM12 RA12 HMM12
        go_wp2_with (first | (refine wpList_isW rfl _ _ (exec_load _ _ _ _ rfl rfl (loadDl_run _ gp 0 dp RDP13.out)) ?_) | fail)
        have A1 := apply_new (w := w) K13.out By13.out (HMM13.out) (by have := HNN.out; omega) dp
        refine A1.mono ?_
        rintro e w14 ⟨a9, c9, rfl, o9, b9, k9, z9, q9⟩
        have By14 := hid b9
        have Bx14 := hid (Bx13.out.keep q9 (by have := HNN.out; simp; omega) (by simp))
        have K14 := hid k9
        have RDP14 := hid (range_keep RDP13.out q9 (by have := HNN.out; simp; omega))
        have RDM14 := hid (range_keep RDM13.out q9 (by have := HNN.out; simp; omega))
        have RA14 := hid (range_keep RA13.out q9 (by have := HNN.out; simp; omega))
        have HMM14 := hid (fun b (hb : b ∈ [n2, n1, m]) => Nat.lt_of_lt_of_le (HMM13.out b hb) z9)
        clear A1 o9 b9 k9 z9 q9 Bx13 By13 K13 RDP13 RDM13 RA13 HMM13
        rw [SY.out] at By14
        obtain ⟨sf, hsf⟩ : ∃ t, t = stepD s dp := ⟨_, rfl⟩
        rw [← hsf] at Bx14 By14 SA
        clear hsf SX SY
        have HGA14 := hid (show ga < w14.heap.size by have := HMM14.out n1 (by simp); have := HNN.out; omega)
        go_wp2_with fail
        refine wp_region_any (by kernel_rfl) (wpAny_of_held (S := KpS [] w14.heap.size w14.drew) _ _ _ _ ?_)
        change wpAnyH _ _ _ _ _ _ _ _ w14.drew
        have s0 : KpS [] w14.heap.size w14.drew w14.drew := KpS.refl _ _ _
        have cA : ∀ W1, KpS [] w14.heap.size w14.drew W1 → W1.rangeAt ga 0 a.cells := fun W1 h i v hv => h.cell (by rw [World.cell?_drew]; exact RA14.out i v hv) HGA14.out (by simp)
        refine held_do (i := 0) (by kernel_rfl) rfl rfl (wp_enter (f := 10) (args := #[]) (by go_simp) (bkAwake_any w14.drew) ?_)
        rintro e x1 ⟨rfl, k1⟩
        have s1 : KpS [] w14.heap.size w14.drew x1 := s0.keeps k1 s0.size (by simp)
        refine ⟨_, rfl, s1, ?_⟩
        simp only [Act.put, List.setIfInBounds_toArray, List.set_cons_zero, List.set_cons_succ]
        have bx1 := Bx14.out.later (((Keeps.refl [] w14).drew).trans k1)
        have by1 := By14.out.later (((Keeps.refl [] w14).drew).trans k1)
        refine held_take (i := 1) (v := .bool true) rfl (by kernel_rfl) (by kernel_rfl) (by kernel_rfl) (fun _ _ _ h => h) rfl (fun W1 hW1 => rfl) (s1) ?_
        simp only [Act.put, List.setIfInBounds_toArray, List.set_cons_zero, List.set_cons_succ]
        refine held_takeW (i := 2) (v := .pointer (some ⟨n1, 0, none⟩)) rfl (by kernel_rfl) (by kernel_rfl) (by kernel_rfl) (fun _ _ _ h => h) rfl (fun W1 hW1 => rfl) (s1) ?_
        simp only [Act.put, List.setIfInBounds_toArray, List.set_cons_zero, List.set_cons_succ]
        refine held_takeW (i := 3) (v := .int .i64 (k : Int)) rfl (by kernel_rfl) (by kernel_rfl) (by kernel_rfl) (fun _ _ _ h => h) rfl (fun W1 hW1 => rfl) (s1) ?_
        simp only [Act.put, List.setIfInBounds_toArray, List.set_cons_zero, List.set_cons_succ]
        refine held_takeW (i := 5) (v := ptV a) rfl (by kernel_rfl) (by kernel_rfl) (by kernel_rfl) (fun _ _ _ h => h) rfl (fun W1 hW1 => exec_load _ _ _ _ rfl rfl (loadPt_run W1 ga 0 a (cA W1 hW1))) (s1) ?_
        simp only [Act.put, List.setIfInBounds_toArray, List.set_cons_zero, List.set_cons_succ]
        refine held_doW (i := 4) (by kernel_rfl) rfl rfl (wp_enter (f := 16) (args := #[.pointer (some ⟨n1, 0, none⟩), .int .i64 (k : Int)]) (by go_simp) (zAt_any bx1 (k : Int)) ?_)
        rintro e x2 ⟨rfl, k2⟩
        rw [SA.out]
        have s2 : KpS [] w14.heap.size w14.drew x2 := s1.keeps k2 s1.size (by simp)
        refine ⟨_, rfl, s2, ?_⟩
        simp only [Act.put, List.setIfInBounds_toArray, List.set_cons_zero, List.set_cons_succ]
        refine held_takeW (i := 6) (v := .bool true) rfl (by kernel_rfl) (by kernel_rfl) (by kernel_rfl) (fun _ _ _ h => h) rfl (fun W1 hW1 => (exec_eqPts _ _ _ a a rfl rfl rfl).trans (by rw [eqP_is.2 (rfl : a = a)])) (s2) ?_
        simp only [Act.put, List.setIfInBounds_toArray, List.set_cons_zero, List.set_cons_succ]
        refine held_take (i := 7) (v := .bool true) rfl (by kernel_rfl) (by kernel_rfl) (by kernel_rfl) (fun _ _ _ h => h) rfl (fun W1 hW1 => by go_simp) (s2) ?_
        simp only [Act.put, List.setIfInBounds_toArray, List.set_cons_zero, List.set_cons_succ]
        refine held_take (i := 8) (v := .bool true) rfl (by kernel_rfl) (by kernel_rfl) (by kernel_rfl) (fun _ _ _ h => h) rfl (fun W1 hW1 => rfl) (s2) ?_
        simp only [Act.put, List.setIfInBounds_toArray, List.set_cons_zero, List.set_cons_succ]
        refine held_takeW (i := 9) (v := .pointer (some ⟨n2, 0, none⟩)) rfl (by kernel_rfl) (by kernel_rfl) (by kernel_rfl) (fun _ _ _ h => h) rfl (fun W1 hW1 => rfl) (s2) ?_
        simp only [Act.put, List.setIfInBounds_toArray, List.set_cons_zero, List.set_cons_succ]
        refine held_takeW (i := 10) (v := .int .i64 (k : Int)) rfl (by kernel_rfl) (by kernel_rfl) (by kernel_rfl) (fun _ _ _ h => h) rfl (fun W1 hW1 => rfl) (s2) ?_
        simp only [Act.put, List.setIfInBounds_toArray, List.set_cons_zero, List.set_cons_succ]
        refine held_takeW (i := 12) (v := ptV a) rfl (by kernel_rfl) (by kernel_rfl) (by kernel_rfl) (fun _ _ _ h => h) rfl (fun W1 hW1 => exec_load _ _ _ _ rfl rfl (loadPt_run W1 ga 0 a (cA W1 hW1))) (s2) ?_
        simp only [Act.put, List.setIfInBounds_toArray, List.set_cons_zero, List.set_cons_succ]
        refine held_doW (i := 11) (by kernel_rfl) rfl rfl (wp_enter (f := 16) (args := #[.pointer (some ⟨n2, 0, none⟩), .int .i64 (k : Int)]) (by go_simp) (zAt_any (by1.later k2) (k : Int)) ?_)
        rintro e x3 ⟨rfl, k3⟩
        rw [SA.out]
        have s3 : KpS [] w14.heap.size w14.drew x3 := s2.keeps k3 s2.size (by simp)
        refine ⟨_, rfl, s3, ?_⟩
        simp only [Act.put, List.setIfInBounds_toArray, List.set_cons_zero, List.set_cons_succ]
        refine held_takeW (i := 13) (v := .bool true) rfl (by kernel_rfl) (by kernel_rfl) (by kernel_rfl) (fun _ _ _ h => h) rfl (fun W1 hW1 => (exec_eqPts _ _ _ a a rfl rfl rfl).trans (by rw [eqP_is.2 (rfl : a = a)])) (s3) ?_
        simp only [Act.put, List.setIfInBounds_toArray, List.set_cons_zero, List.set_cons_succ]
        refine held_take (i := 14) (v := .bool true) rfl (by kernel_rfl) (by kernel_rfl) (by kernel_rfl) (fun _ _ _ h => h) rfl (fun W1 hW1 => by go_simp) (s3) ?_
        simp only [Act.put, List.setIfInBounds_toArray, List.set_cons_zero, List.set_cons_succ]
        refine held_take (i := 15) (v := .bool true) rfl (by kernel_rfl) (by kernel_rfl) (by kernel_rfl) (fun _ _ _ h => h) rfl (fun W1 hW1 => rfl) (s3) ?_
        simp only [Act.put, List.setIfInBounds_toArray, List.set_cons_zero, List.set_cons_succ]
        refine held_takeW (i := 16) (v := .pointer (some ⟨n1, 0, none⟩)) rfl (by kernel_rfl) (by kernel_rfl) (by kernel_rfl) (fun _ _ _ h => h) rfl (fun W1 hW1 => rfl) (s3) ?_
        simp only [Act.put, List.setIfInBounds_toArray, List.set_cons_zero, List.set_cons_succ]
        refine held_takeW (i := 18) (v := .pointer (some ⟨n2, 0, none⟩)) rfl (by kernel_rfl) (by kernel_rfl) (by kernel_rfl) (fun _ _ _ h => h) rfl (fun W1 hW1 => rfl) (s3) ?_
        simp only [Act.put, List.setIfInBounds_toArray, List.set_cons_zero, List.set_cons_succ]
        refine held_doW (i := 17) (by kernel_rfl) rfl rfl (wp_enter (f := 27) (args := #[.pointer (some ⟨n1, 0, none⟩)]) (by go_simp) (lBytes11_any (bx1.later (k2.trans k3))) ?_)
        rintro e x4 ⟨a4, c4, rfl, r4, _, k4⟩
        have s4 : KpS [] w14.heap.size w14.drew x4 := s3.keeps k4 s3.size (by simp)
        refine ⟨_, rfl, s4, ?_⟩
        simp only [Act.put, List.setIfInBounds_toArray, List.set_cons_zero, List.set_cons_succ]
        refine held_doW (i := 19) (by kernel_rfl) rfl rfl (wp_enter (f := 27) (args := #[.pointer (some ⟨n2, 0, none⟩)]) (by go_simp) (lBytes11_any (by1.later ((k2.trans k3).trans k4))) ?_)
        rintro e x5 ⟨a5, c5, rfl, r5, _, k5⟩
        have s5 : KpS [] w14.heap.size w14.drew x5 := s4.keeps k5 s4.size (by simp)
        refine ⟨_, rfl, s5, ?_⟩
        simp only [Act.put, List.setIfInBounds_toArray, List.set_cons_zero, List.set_cons_succ]
        have hbl := bytesB_len sf
        refine held_doW (i := 20) (by kernel_rfl) rfl rfl (wp_enter (f := 41) (args := #[.slice a4 (bytesB sf).length c4, .slice a5 (bytesB sf).length c5]) (by go_simp) (same_any x5 _ _ (bytesB sf) (bytesB sf) (r4.keep k5 (by intro _ _ _ _ _; simp)) r5 (by omega) (by omega)) ?_)
        rintro e x6 ⟨rfl, n6, rfl⟩
        rw [show decide (bytesB sf = bytesB sf) = true from decide_eq_true rfl]
        have s6 : KpS [] w14.heap.size w14.drew (x5.drewN n6) := s5.keeps ((Keeps.refl [] x5).drewN n6) s5.size (by simp)
        refine ⟨_, rfl, s6, ?_⟩
        simp only [Act.put, List.setIfInBounds_toArray, List.set_cons_zero, List.set_cons_succ]
        refine held_take (i := 21) (v := .bool true) rfl (by kernel_rfl) (by kernel_rfl) (by kernel_rfl) (fun _ _ _ h => h) rfl (fun W1 hW1 => by go_simp) (s6) ?_
        simp only [Act.put, List.setIfInBounds_toArray, List.set_cons_zero, List.set_cons_succ]
        refine held_take (i := 22) (v := .bool true) rfl (by kernel_rfl) (by kernel_rfl) (by kernel_rfl) (fun _ _ _ h => h) rfl (fun W1 hW1 => rfl) (s6) ?_
        simp only [Act.put, List.setIfInBounds_toArray, List.set_cons_zero, List.set_cons_succ]
        refine wpAnyH_done (by kernel_rfl) ?_ _
        have KF := hid (K14.out.drew.trans ((k1.trans (k2.trans k3)).trans ((k4.trans k5).drewN n6)))
        clear cA s0 s1 s2 s3 s4 s5 s6 k1 k2 k3 k4 k5 bx1 by1 r4 r5 hbl
        go_wp2_with fail
        go_ret
        exact ⟨rfl, KF.out⟩
end Go.Proofs.Ytdfhoanilbfkiaa
