/- blocks: the walk of the law BlocksCuts. -/
import Derived.Test.YtdfhoanilbfkiaaBkGoneW
import Derived.Test.YtdfhoanilbfkiaaBkKnownW
namespace Go.Proofs.Ytdfhoanilbfkiaa
open Go.RowKit Go.Shelf
set_option maxRecDepth 100000
set_option linter.unusedSimpArgs false

theorem cut_step (s : Bk) (a : Int) (h0 : 0 ≤ a) (h1 : a ≤ 4096) : stepD s ⟨2, 2, 0, a, pZ, pZ⟩ = ⟨a, fitL s.L (cnt a)⟩ := by
  have hm : mayD s ⟨2, 2, 0, a, pZ, pZ⟩ = true := by
    unfold mayD
    simp only [show ¬ ((2 : Int) = 1) by decide, if_false, if_true]
    exact btw_is.2 ⟨h0, h1⟩
  unfold stepD
  rw [if_pos hm]
  rfl
theorem getD_fit (L : List Pt) (n i : Nat) : (fitL L n).getD i pZ = if i < n then L.getD i pZ else pZ := by
  simp only [List.getD_eq_getElem?_getD]
  unfold fitL
  by_cases h : i < (L.take n).length
  · rw [List.getElem?_append_left h, List.getElem?_take]
    rw [List.length_take] at h
    rw [if_pos (by omega), if_pos (by omega)]
  · rw [List.getElem?_append_right (by omega)]
    rw [List.length_take] at h ⊢
    by_cases hn : i < n
    · rw [if_pos hn, List.getElem?_eq_none (l := L) (by omega), List.getElem?_replicate, if_pos (by omega)]
      rfl
    · rw [if_neg hn, List.getElem?_replicate, if_neg (by omega)]
      rfl
theorem cut_at (L : List Pt) (n m i : Nat) (hi : i < m) : atB (fitL (fitL L n) m) (i : Int) = if i < n then atB L (i : Int) else pZ := by
  have e : ∀ X : List Pt, atB X (i : Int) = X.getD i pZ := fun X => by unfold atB; rw [if_pos (by omega), Int.toNat_natCast]
  rw [e, e, getD_fit, getD_fit, if_pos hi]

/-- All deltas are applied to a map that was made since w. -/
def AllAt (w : World) (m : Nat) (ds : List Dl) (k : Nat) (wr : World) : Prop := k ≤ ds.length ∧ BkAt wr [m] m ((ds.take k).foldl stepD bk0) ∧ Keeps [] w wr
theorem all_next {w wr w1 : World} {m : Nat} {ds : List Dl} {k : Nat} (_h : AllAt w m ds k wr) (hk : k < ds.length) (b : BkAt w1 [m] m (stepD ((ds.take k).foldl stepD bk0) ds[k])) (kk : Keeps [] w w1) : AllAt w m ds (k + 1) w1 := by
  refine ⟨hk, ?_, kk⟩
  rw [List.take_succ_eq_append_getElem hk, List.foldl_append]
  exact b

set_option maxHeartbeats 12800000 in
theorem m11Cuts_any (w : World) (v : Value) (ds : List Dl) (hv : DlsAt w v ds) (y z : Int) (hy : 0 ≤ y ∧ y ≤ 65535) (hz : 0 ≤ z ∧ z ≤ 65535) : Calls Try.prog 8 #[v, .int .u16 y, .int .u16 z] w fun e w' => e = .returned (.bool true) ∧ Keeps [] w w' := by
  have HV := hid hv
  obtain ⟨ad, c, rfl⟩ := hv.shape
  clear hv
  by_cases hl : 60 < ds.length
  · have hl' : decide ((60 : Int) < ds.length) = true := by simp; omega
    go_enter Try.func8, Try.ntmps8
    go_wp2_with fail
    refine (bkAwake_any w).mono ?_
    rintro e w1 ⟨rfl, k1⟩
    have K1 := hid k1
    clear k1
    go_wp2_with fail
    go_ret
    exact ⟨rfl, K1.out⟩
  have hl' : decide ((60 : Int) < ds.length) = false := by simp; omega
  have HL := hid hl
  have HY := hid hy
  have HZ := hid hz
  clear hl hy hz
  go_enter Try.func8, Try.ntmps8
  go_wp2_with fail
  refine (bkAwake_any w).mono ?_
  rintro e w1 ⟨rfl, k1⟩
  have K1 := hid k1
  clear k1
  have B0 := hid (bk_new w1 [])
  have K0 : Hid (Keeps [] w1 (w1.alloc (.cells #[.bool true, .int .i64 0, .slice none 0 0] 66))) := hid ((Keeps.refl [] w1).alloc _)
  have N := hid (zNew_any w1)
  go_wp2_with fail
  clear hl'
  refine N.out.mono ?_
  rintro e w2 ⟨rfl, hw⟩
  rw [← hw] at B0 K0
  clear hw N
  obtain ⟨m, hm⟩ : ∃ m, m = w1.heap.size := ⟨_, rfl⟩
  have K2 := hid (K1.out.trans K0.out)
  have HWM := hid (show w.heap.size ≤ m by rw [hm]; exact K1.out.size)
  rw [← hm] at B0 ⊢
  clear hm K0 K1
  go_wp2_with fail
  go_loopw [8] (fun iv wr => ∃ k : Nat, iv = .int .i64 k ∧ AllAt w m ds k wr) (fun iv _ => ds.length - (intOf iv).toNat)
  case atStart => exact ⟨0, rfl, Nat.zero_le _, B0.out, K2.out⟩
  case round =>
    obtain ⟨k, rfl, hall⟩ := hrel
    have ALL := hid hall
    have hk := hall.1
    clear hall
    by_cases hlt : k < ds.length
    · have hk100 : k < 100 := by have := HL.out; omega
      obtain ⟨x, hx⟩ : ∃ x, x = ds[k] := ⟨_, rfl⟩
      obtain ⟨g, off, rfl, hg, hr⟩ := (HV.out.keep ALL.out.2.2).at k hlt
      rw [← hx] at hr
      have R := hid hr
      have HX := hid hx
      clear hg hr hx
      go_wp2_with (first | (refine wpList_isW rfl _ _ (exec_load _ _ _ _ rfl rfl (loadDl_run _ g (off + k * 14) x R.out)) ?_) | fail)
      have A1 := apply_new (w := w) ALL.out.2.2 ALL.out.2.1 (fun b hb => by simp at hb; rw [hb]; exact ALL.out.2.1.lt) HWM.out x
      refine A1.mono ?_
      rintro e wb ⟨a2, c2, rfl, o2, b2, k2, z2, q2⟩
      have NX := hid (all_next ALL.out hlt (by rw [← HX.out]; exact b2) k2)
      clear A1 o2 b2 k2 z2 q2
      go_wp2_with fail
      go_roundw
      case rel => exact ⟨k + 1, by go_num, NX.out⟩
      case measure => simp [intOf]; omega
    · obtain rfl : k = ds.length := by omega
      obtain ⟨s, hs⟩ : ∃ s, s = (ds.take ds.length).foldl stepD bk0 := ⟨_, rfl⟩
      obtain ⟨_, hB, hK⟩ := ALL.out
      rw [← hs] at hB
      have B := hid hB
      have K := hid hK
      clear hB hK hs ALL hlt hk
      obtain ⟨y0, y1⟩ := HY.out
      obtain ⟨z0, z1⟩ := HZ.out
      obtain ⟨a, ha⟩ : ∃ a, a = y % 4097 := ⟨_, rfl⟩
      have a0 : 0 ≤ a := by rw [ha]; exact Int.emod_nonneg _ (by decide)
      have a1 : a ≤ 4096 := by rw [ha]; have := Int.emod_lt_of_pos y (show (0 : Int) < 4097 by decide); omega
      obtain ⟨b, hb⟩ : ∃ b, b = a + z % (4096 - a + 1) := ⟨_, rfl⟩
      have b0 : a ≤ b := by rw [hb]; have := Int.emod_nonneg z (show (4096 - a + 1) ≠ 0 by omega); omega
      have b1 : b ≤ 4096 := by rw [hb]; have := Int.emod_lt_of_pos z (show (0 : Int) < 4096 - a + 1 by omega); omega
      have ha' := ha.symm
      have hb' := hb.symm
      clear ha hb
      go_wp2_with fail
      rw [ha']
      clear ha' hb' y0 y1 z0 z1
      refine (zClone_any B.out).mono ?_
      rintro e wc ⟨rfl, bq, kc, zc⟩
      obtain ⟨n, hn⟩ : ∃ n, n = wr.heap.size := ⟨_, rfl⟩
      rw [← hn] at bq zc ⊢
      have HMN := hid (show m < n by rw [hn]; exact B.out.lt)
      have BQ := hid bq
      have BM := hid ((B.out.more (N := [n, m]) (fun b hb => by
        simp at hb
        rcases hb with rfl | rfl
        · exact Or.inr (by omega)
        · exact Or.inl (by simp)) (by simp)).later kc)
      have KC := hid (K.out.trans kc)
      have HN := hid (show n < wc.heap.size by omega)
      clear bq zc kc hn
      have E1 := hid (cut_step s a a0 a1)
      have E2 := hid (cut_step ⟨a, fitL s.L (cnt a)⟩ b (by omega) b1)
      have HAB := hid (And.intro a0 (And.intro b0 b1))
      go_wp2_with (first | (refine wpList_is rfl _ _ (exec_buildCut _ _ _ 2 2 a rfl rfl rfl rfl) ?_) | fail)
      have A1 := apply_new (w := w) KC.out BM.out (fun b hb => by simp at hb; have := HN.out; have := HMN.out; omega) HWM.out ⟨2, 2, 0, a, pZ, pZ⟩
      refine A1.mono ?_
      rintro e w3 ⟨a3, c3, rfl, o3, b3, k3, z3, q3⟩
      rw [E1.out] at b3
      have B3 := hid b3
      have K3 := hid k3
      have BQ3 := hid (BQ.out.keep q3 (by have := HMN.out; simp; omega) (by simp))
      have HN3 := hid (show n < w3.heap.size by have := HN.out; omega)
      clear A1 o3 b3 k3 z3 q3 BM BQ
      have QC := zCount_any B3.out
      simp only [fitL_len] at QC
      go_wp2_with fail
      refine QC.mono ?_
      rintro e _ ⟨rfl, rfl⟩
      clear QC
      go_wp2_with (first | (refine wpList_is rfl _ _ (exec_buildCut _ _ _ 2 2 b rfl rfl rfl rfl) ?_) | fail)
      have A1 := apply_new (w := w) K3.out B3.out (fun b hb => by simp at hb; have := HN3.out; have := HMN.out; omega) HWM.out ⟨2, 2, 0, b, pZ, pZ⟩
      refine A1.mono ?_
      rintro e w4 ⟨a4, c4, rfl, o4, b4, k4, z4, q4⟩
      rw [E2.out] at b4
      have B4 := hid b4
      have K4 := hid k4
      have BQ4 := hid (BQ3.out.keep q4 (by have := HMN.out; simp; omega) (by simp))
      have HN4 := hid (show n < w4.heap.size by have := HN3.out; omega)
      clear A1 o4 b4 k4 z4 q4 B3 BQ3
      obtain ⟨i, hi⟩ : ∃ i : Nat, i = cnt a := ⟨_, rfl⟩
      obtain ⟨j, hj⟩ : ∃ j : Nat, j = cnt b := ⟨_, rfl⟩
      have hi64 : i ≤ 64 := by rw [hi]; exact cnt_le a1
      have hj64 : j ≤ 64 := by rw [hj]; exact cnt_le b1
      have hdi : (a + 63) / 64 = (i : Int) := by rw [hi]; unfold cnt; omega
      have hdj : (b + 63) / 64 = (j : Int) := by rw [hj]; unfold cnt; omega
      have q1 : a + 64 - 1 = a + 63 := by omega
      have q2 : b + 64 - 1 = b + 63 := by omega
      have QS := zSize_any B4.out
      have QC := zCount_any B4.out
      simp only [fitL_len] at QC
      rw [← hj] at QC
      rw [← hi]
      have HI := hid hi
      have HJ := hid hj
      clear hi hj
      go_wp2_with fail
      refine QS.mono ?_
      rintro e _ ⟨rfl, rfl⟩
      go_wp2_with fail
      refine QC.mono ?_
      rintro e _ ⟨rfl, rfl⟩
      go_wp2_with fail
      have CNT := hid (fun (W : World) (k : Keeps [] w4 W) => by
        have := zCount_any (B4.out.later k)
        simp only [fitL_len] at this
        rw [← HJ.out] at this
        exact this)
      rw [hdi, hdj]
      clear hdi hdj q1 q2
      go_loopw [13, 14] (fun tv _ wr => ∃ t : Nat, tv = .int .i64 t ∧ t ≤ j ∧ Keeps [] w4 wr) (fun tv _ _ => j - (intOf tv).toNat)
      case atStart => exact ⟨0, rfl, Nat.zero_le _, Keeps.refl _ _⟩
      case round =>
        obtain ⟨t, rfl, htj, hkq⟩ := hrel
        have KQ := hid hkq
        clear hkq
        by_cases hlt2 : t < j
        · by_cases hti : t < i
          · have hX := trivial
            have ka : Keeps [] wr (wr.alloc (.cells pZ.cells.toArray 28)) := (Keeps.refl [] wr).alloc _
            have KA := hid (KQ.out.trans ka)
            have GA := hid (heap_alloc_new wr (.cells pZ.cells.toArray 28))
            have RA := hid (range_new wr pZ.cells 28)
            clear ka
            go_wp2_with (first | (refine wpList_is rfl _ _ (exec_buildPtZ rfl) ?_) | (refine wpList_is rfl _ _ (exec_alloc 28 pZ.cells.toArray iPtr2 rfl) ?_) | (refine wpList_noval rfl _ (exec_storeNew 28 _ _ rfl wr pZ.cells.toArray pZ.cells.toArray rfl rfl rfl iPtr2 rfl (cells_one _)) ?_) | (go_at_call 15; refine (CNT.out wr KQ.out).mono ?_; rintro e _ ⟨rfl, rfl⟩) | fail)
            refine (zAt_any (BQ4.out.later KA.out) (t : Int)).mono ?_
            rintro e wx ⟨rfl, kx⟩
            have KX := hid (KA.out.trans kx)
            have GX := hid ((kx.block _ (lt_of_block GA.out) (by simp)).trans GA.out)
            have HSX := hid (show w4.heap.size ≤ wr.heap.size from KQ.out.size)
            obtain ⟨want, hwant⟩ : ∃ p, p = atB s.L (t : Int) := ⟨_, rfl⟩
            rw [← hwant]
            have HW := hid (show want = atB (fitL (fitL s.L i) j) (t : Int) by rw [cut_at _ _ _ _ hlt2, if_pos hti]; exact hwant)
            clear kx hwant RA
            go_wp2_with (first | (refine wpList_storePtAt rfl _ _ rfl wr.heap.size 0 rfl pZ.cells.toArray GX.out (by decide) want rfl ?_; intro wy sy ky) | fail)
            have RY := hid (stored_range sy.out)
            have KY := hid (KX.out.trans' ky.out (S := []) (fun b hb hm => by simp at hm; have := HSX.out; omega))
            have hwy : wr.heap.size < wy.heap.size := by have := lt_of_block GX.out; have := ky.out.size; omega
            have HWY := hid hwy
            clear sy ky hwy
            refine wp_region_any (by kernel_rfl) (wpAny_of_held (S := KpS [] wy.heap.size wy.drew) _ _ _ _ ?_)
            change wpAnyH _ _ _ _ _ _ _ _ wy.drew
            have s0 : KpS [] wy.heap.size wy.drew wy.drew := KpS.refl _ _ _
            have cX : ∀ W1, KpS [] wy.heap.size wy.drew W1 → W1.rangeAt wr.heap.size 0 want.cells := fun W1 h i v hv => h.cell (by rw [World.cell?_drew]; exact RY.out i v hv) HWY.out (by simp)
            refine held_take (i := 0) (v := .pointer (some ⟨m, 0, none⟩)) rfl (by kernel_rfl) (by kernel_rfl) (by kernel_rfl) (fun _ _ _ h => h) rfl (fun W1 hW1 => rfl) (KpS.refl _ _ _) ?_
            simp only [Act.put, List.setIfInBounds_toArray, List.set_cons_zero, List.set_cons_succ]
            refine held_take (i := 1) (v := .int .i64 (t : Int)) rfl (by kernel_rfl) (by kernel_rfl) (by kernel_rfl) (fun _ _ _ h => h) rfl (fun W1 hW1 => rfl) (KpS.refl _ _ _) ?_
            simp only [Act.put, List.setIfInBounds_toArray, List.set_cons_zero, List.set_cons_succ]
            refine held_take (i := 3) (v := ptV want) rfl (by kernel_rfl) (by kernel_rfl) (by kernel_rfl) (fun _ _ _ h => h) rfl (fun W1 hW1 => exec_load _ _ _ _ rfl rfl (loadPt_run W1 wr.heap.size 0 want (cX W1 hW1))) (KpS.refl _ _ _) ?_
            simp only [Act.put, List.setIfInBounds_toArray, List.set_cons_zero, List.set_cons_succ]
            refine held_do (i := 2) (by kernel_rfl) rfl rfl (wp_enter (f := 16) (args := #[.pointer (some ⟨m, 0, none⟩), .int .i64 (t : Int)]) (by go_simp) (zAt_any (B4.out.later KY.out.drew) (t : Int)) ?_)
            rintro e wz ⟨rfl, kz⟩
            have s1 : KpS [] wy.heap.size wy.drew wz := s0.keeps kz s0.size (by simp)
            refine ⟨_, rfl, s1, ?_⟩
            simp only [Act.put, List.setIfInBounds_toArray, List.set_cons_zero, List.set_cons_succ]
            refine held_take (i := 4) (v := .bool false) rfl (by kernel_rfl) (by kernel_rfl) (by kernel_rfl) (fun _ _ _ h => h) rfl (fun W1 hW1 => (exec_neqPts _ _ _ (atB (fitL (fitL s.L (cnt a)) (cnt b)) (t : Int)) want rfl rfl rfl).trans (by rw [show eqP (atB (fitL (fitL s.L (cnt a)) (cnt b)) (t : Int)) want = true from eqP_is.2 (by rw [← HI.out, ← HJ.out]; exact HW.out.symm)]; rfl)) (s1) ?_
            simp only [Act.put, List.setIfInBounds_toArray, List.set_cons_zero, List.set_cons_succ]
            refine wpAnyH_done (by kernel_rfl) ?_ _
            have KZ := hid (KY.out.drew.trans kz)
            clear cX s0 s1 kz
            go_wp2_with fail
            go_roundw
            case rel => exact ⟨t + 1, by go_num, by omega, KZ.out⟩
            case measure => simp [intOf]; omega
          · have hX := trivial
            have ka : Keeps [] wr (wr.alloc (.cells pZ.cells.toArray 28)) := (Keeps.refl [] wr).alloc _
            have KA := hid (KQ.out.trans ka)
            have GA := hid (heap_alloc_new wr (.cells pZ.cells.toArray 28))
            have RA := hid (range_new wr pZ.cells 28)
            clear ka
            go_wp2_with (first | (refine wpList_is rfl _ _ (exec_buildPtZ rfl) ?_) | (refine wpList_is rfl _ _ (exec_alloc 28 pZ.cells.toArray iPtr2 rfl) ?_) | (refine wpList_noval rfl _ (exec_storeNew 28 _ _ rfl wr pZ.cells.toArray pZ.cells.toArray rfl rfl rfl iPtr2 rfl (cells_one _)) ?_) | (go_at_call 15; refine (CNT.out wr KQ.out).mono ?_; rintro e _ ⟨rfl, rfl⟩) | fail)
            have hY := trivial
            have HW := hid (show pZ = atB (fitL (fitL s.L i) j) (t : Int) by rw [cut_at _ _ _ _ hlt2, if_neg hti])
            obtain ⟨wy, hwy⟩ : ∃ W, W = wr.alloc (.cells pZ.cells.toArray 28) := ⟨_, rfl⟩
            have RY := hid (show wy.rangeAt wr.heap.size 0 pZ.cells by rw [hwy]; exact RA.out)
            have KY := hid (show Keeps [] w4 wy by rw [hwy]; exact KA.out)
            have HWY := hid (show wr.heap.size < wy.heap.size by rw [hwy]; simp)
            rw [← hwy]
            clear hwy RA GA
            refine wp_region_any (by kernel_rfl) (wpAny_of_held (S := KpS [] wy.heap.size wy.drew) _ _ _ _ ?_)
            change wpAnyH _ _ _ _ _ _ _ _ wy.drew
            have s0 : KpS [] wy.heap.size wy.drew wy.drew := KpS.refl _ _ _
            have cX : ∀ W1, KpS [] wy.heap.size wy.drew W1 → W1.rangeAt wr.heap.size 0 pZ.cells := fun W1 h i v hv => h.cell (by rw [World.cell?_drew]; exact RY.out i v hv) HWY.out (by simp)
            refine held_take (i := 0) (v := .pointer (some ⟨m, 0, none⟩)) rfl (by kernel_rfl) (by kernel_rfl) (by kernel_rfl) (fun _ _ _ h => h) rfl (fun W1 hW1 => rfl) (KpS.refl _ _ _) ?_
            simp only [Act.put, List.setIfInBounds_toArray, List.set_cons_zero, List.set_cons_succ]
            refine held_take (i := 1) (v := .int .i64 (t : Int)) rfl (by kernel_rfl) (by kernel_rfl) (by kernel_rfl) (fun _ _ _ h => h) rfl (fun W1 hW1 => rfl) (KpS.refl _ _ _) ?_
            simp only [Act.put, List.setIfInBounds_toArray, List.set_cons_zero, List.set_cons_succ]
            refine held_take (i := 3) (v := ptV pZ) rfl (by kernel_rfl) (by kernel_rfl) (by kernel_rfl) (fun _ _ _ h => h) rfl (fun W1 hW1 => exec_load _ _ _ _ rfl rfl (loadPt_run W1 wr.heap.size 0 pZ (cX W1 hW1))) (KpS.refl _ _ _) ?_
            simp only [Act.put, List.setIfInBounds_toArray, List.set_cons_zero, List.set_cons_succ]
            refine held_do (i := 2) (by kernel_rfl) rfl rfl (wp_enter (f := 16) (args := #[.pointer (some ⟨m, 0, none⟩), .int .i64 (t : Int)]) (by go_simp) (zAt_any (B4.out.later KY.out.drew) (t : Int)) ?_)
            rintro e wz ⟨rfl, kz⟩
            have s1 : KpS [] wy.heap.size wy.drew wz := s0.keeps kz s0.size (by simp)
            refine ⟨_, rfl, s1, ?_⟩
            simp only [Act.put, List.setIfInBounds_toArray, List.set_cons_zero, List.set_cons_succ]
            refine held_take (i := 4) (v := .bool false) rfl (by kernel_rfl) (by kernel_rfl) (by kernel_rfl) (fun _ _ _ h => h) rfl (fun W1 hW1 => (exec_neqPts _ _ _ (atB (fitL (fitL s.L (cnt a)) (cnt b)) (t : Int)) pZ rfl rfl rfl).trans (by rw [show eqP (atB (fitL (fitL s.L (cnt a)) (cnt b)) (t : Int)) pZ = true from eqP_is.2 (by rw [← HI.out, ← HJ.out]; exact HW.out.symm)]; rfl)) (s1) ?_
            simp only [Act.put, List.setIfInBounds_toArray, List.set_cons_zero, List.set_cons_succ]
            refine wpAnyH_done (by kernel_rfl) ?_ _
            have KZ := hid (KY.out.drew.trans kz)
            clear cX s0 s1 kz
            go_wp2_with fail
            go_roundw
            case rel => exact ⟨t + 1, by go_num, by omega, KZ.out⟩
            case measure => simp [intOf]; omega
        · obtain rfl : t = j := by omega
          go_wp2_with (first | (go_at_call 15; refine (CNT.out wr KQ.out).mono ?_; rintro e _ ⟨rfl, rfl⟩) | fail)
          go_ret
          exact ⟨rfl, K4.out.trans KQ.out⟩
end Go.Proofs.Ytdfhoanilbfkiaa
