/- delta: the walk of the law DeltaCodes. -/
import Derived.Test.YtamcllcjondcpaaDeJb
namespace Go.Proofs.Ytamcllcjondcpaa
open Go.RowKit Go.Shelf
set_option maxRecDepth 100000
set_option linter.unusedSimpArgs false

set_option maxHeartbeats 25600000 in
theorem m12Codes_any (w : World) (v u bv : Value) (ds ks : List Dl) (zs : List Int) (hx : DlsAt w v ds) (hy : DlsAt w u ks) (hz : RowAt w bv zs) :
    Calls Try.prog 5 #[v, u, bv] w fun e w' => e = .returned (.bool true) ∧ Keeps [] w w' := by
  have HX := hid hx
  have HY := hid hy
  have HZ := hid hz
  obtain ⟨a, c, rfl⟩ := hx.shape
  obtain ⟨b, d, rfl⟩ := hy.shape
  obtain ⟨ba, bc, rfl⟩ : ∃ a c, bv = .slice a zs.length c := by obtain ⟨a, c, h, _⟩ := hz; exact ⟨a, c, h⟩
  clear hx hy hz
  by_cases hl1 : (100 : Int) < (ds.length : Int)
  · go_enter Try.func5, Try.ntmps5
    go_wp2_with fail
    refine (dAwake_any w).mono ?_
    rintro e w1 ⟨rfl, k1⟩
    have K1 := hid k1
    clear k1
    go_wp2_with (first | go_big_skip | fail)
    go_ret
    exact ⟨rfl, K1.out⟩
  by_cases hl2 : (100 : Int) < (ks.length : Int)
  · go_enter Try.func5, Try.ntmps5
    go_wp2_with fail
    refine (dAwake_any w).mono ?_
    rintro e w1 ⟨rfl, k1⟩
    have K1 := hid k1
    clear k1
    go_wp2_with (first | go_big_skip | fail)
    go_ret
    exact ⟨rfl, K1.out⟩
  by_cases hl3 : (3000 : Int) < (zs.length : Int)
  · go_enter Try.func5, Try.ntmps5
    go_wp2_with fail
    refine (dAwake_any w).mono ?_
    rintro e w1 ⟨rfl, k1⟩
    have K1 := hid k1
    clear k1
    go_wp2_with (first | go_big_skip | fail)
    go_ret
    exact ⟨rfl, K1.out⟩
  have HL1 := hid hl1
  have HL3 := hid hl3
  go_enter Try.func5, Try.ntmps5
  go_wp2_with fail
  refine (dAwake_any w).mono ?_
  rintro e w1 ⟨rfl, k1⟩
  have K1 := hid k1
  clear k1
  go_wp2_with (first | go_big_skip | fail)
  clear hl2 hl3
  go_loopw [7] (fun iv wr => ∃ k : Nat, k ≤ ds.length ∧ iv = .int .i64 k ∧ Hid (Keeps [] w wr)) (fun iv _ => ds.length - (intOf iv).toNat)
  case atStart => exact ⟨0, by omega, rfl, K1⟩
  case round =>
    obtain ⟨k, hk, rfl, KR⟩ := hrel
    by_cases hlt : k < ds.length
    · obtain ⟨g, off, rfl, hg, R0⟩ := (HX.out.keep KR.out).at k hlt
      obtain ⟨x, hxe⟩ : ∃ x, x = ds[k] := ⟨_, rfl⟩
      rw [← hxe] at R0
      have R := hid R0
      have HG := hid hg
      clear R0 hg hxe
      obtain ⟨m, hm⟩ : ∃ m, m = mayL x := ⟨_, rfl⟩
      have HM := hid hm
      clear hm
      go_wp2_with fail
      refine wp_region_any (by kernel_rfl) (wpAny_of_held (S := KpS [] wr.heap.size wr.drew) _ _ _ _ ?_)
      change wpAnyH _ _ _ _ _ _ _ _ wr.drew
      have cX : ∀ W1, KpS [] wr.heap.size wr.drew W1 → W1.rangeAt g (off + k * 14) x.cells := fun W1 h j v hv => h.cell (by rw [World.cell?_drew]; exact R.out j v hv) HG.out (by simp)
      refine held_take (i := 0) (v := .slice (some ⟨g, off, none⟩) ds.length c) rfl (by kernel_rfl) (by kernel_rfl) (by kernel_rfl) (fun _ _ _ h => h) rfl (fun W1 hW1 => rfl) (KpS.refl _ _ _) ?_
      simp only [Act.put, List.setIfInBounds_toArray, List.set_cons_zero, List.set_cons_succ]
      refine held_take (i := 1) (v := .int .i64 (k : Int)) rfl (by kernel_rfl) (by kernel_rfl) (by kernel_rfl) (fun _ _ _ h => h) rfl (fun W1 hW1 => rfl) (KpS.refl _ _ _) ?_
      simp only [Act.put, List.setIfInBounds_toArray, List.set_cons_zero, List.set_cons_succ]
      refine held_take (i := 2) (v := .pointer (some ⟨g, off + k * 14, none⟩)) rfl (by kernel_rfl) (by kernel_rfl) (by kernel_rfl) (fun _ _ _ h => h) rfl (fun W1 hW1 => by go_simp) (KpS.refl _ _ _) ?_
      simp only [Act.put, List.setIfInBounds_toArray, List.set_cons_zero, List.set_cons_succ]
      refine held_take (i := 3) (v := dlV x) rfl (by kernel_rfl) (by kernel_rfl) (by kernel_rfl) (fun _ _ _ h => h) rfl (fun W1 hW1 => exec_load _ _ _ _ rfl rfl (loadDl_run W1 g (off + k * 14) x (cX W1 hW1))) (KpS.refl _ _ _) ?_
      simp only [Act.put, List.setIfInBounds_toArray, List.set_cons_zero, List.set_cons_succ]
      refine held_take (i := 5) (v := .slice (some ⟨g, off, none⟩) ds.length c) rfl (by kernel_rfl) (by kernel_rfl) (by kernel_rfl) (fun _ _ _ h => h) rfl (fun W1 hW1 => rfl) (KpS.refl _ _ _) ?_
      simp only [Act.put, List.setIfInBounds_toArray, List.set_cons_zero, List.set_cons_succ]
      refine held_take (i := 6) (v := .int .i64 (k : Int)) rfl (by kernel_rfl) (by kernel_rfl) (by kernel_rfl) (fun _ _ _ h => h) rfl (fun W1 hW1 => rfl) (KpS.refl _ _ _) ?_
      simp only [Act.put, List.setIfInBounds_toArray, List.set_cons_zero, List.set_cons_succ]
      refine held_take (i := 7) (v := .pointer (some ⟨g, off + k * 14, none⟩)) rfl (by kernel_rfl) (by kernel_rfl) (by kernel_rfl) (fun _ _ _ h => h) rfl (fun W1 hW1 => by go_simp) (KpS.refl _ _ _) ?_
      simp only [Act.put, List.setIfInBounds_toArray, List.set_cons_zero, List.set_cons_succ]
      refine held_take (i := 8) (v := dlV x) rfl (by kernel_rfl) (by kernel_rfl) (by kernel_rfl) (fun _ _ _ h => h) rfl (fun W1 hW1 => exec_load _ _ _ _ rfl rfl (loadDl_run W1 g (off + k * 14) x (cX W1 hW1))) (KpS.refl _ _ _) ?_
      simp only [Act.put, List.setIfInBounds_toArray, List.set_cons_zero, List.set_cons_succ]
      refine held_do (i := 4) (by kernel_rfl) rfl rfl (wp_enter (f := 21) (args := #[dlV x]) (by go_simp) (dMay_any wr.drew x) ?_)
      rintro e w4 ⟨rfl, k4⟩
      rw [← HM.out]
      have kp4 : KpS [] wr.heap.size wr.drew w4 := (KpS.refl _ _ _).keeps k4 (Nat.le_refl _) (fun i hi _ => hi)
      refine ⟨_, rfl, kp4, ?_⟩
      simp only [Act.put, List.setIfInBounds_toArray, List.set_cons_zero, List.set_cons_succ]
      refine held_do (i := 9) (by kernel_rfl) rfl rfl (wp_enter (f := 22) (args := #[dlV x]) (by go_simp) (rdMay_any w4 x) ?_)
      rintro e w5 ⟨rfl, k5⟩
      rw [← HM.out]
      have kp5 : KpS [] wr.heap.size wr.drew w5 := kp4.keeps k5 k4.size (fun i hi _ => hi)
      refine ⟨_, rfl, kp5, ?_⟩
      simp only [Act.put, List.setIfInBounds_toArray, List.set_cons_zero, List.set_cons_succ]
      have K5 := hid ((KR.out.drew.trans k4).trans k5)
      refine held_take (i := 10) (v := .bool false) rfl (by kernel_rfl) (by kernel_rfl) (by kernel_rfl) (fun _ _ _ h => h) rfl (fun W1 hW1 => by cases m <;> go_simp) (kp5) ?_
      simp only [Act.put, List.setIfInBounds_toArray, List.set_cons_zero, List.set_cons_succ]
      refine wpAnyH_done (by kernel_rfl) ?_ _
      clear cX kp4 kp5 k4 k5
      go_wp2_with fail
      go_roundw
      case rel => exact ⟨k + 1, by omega, by go_num, K5⟩
      case measure => simp [intOf]; omega
    · have hl4 : ds.length ≤ 100 := by have := HL1.out; omega
      obtain ⟨es, hes⟩ : ∃ r, r = encL ds := ⟨_, rfl⟩
      have HES := hid hes
      have HRE := hid (show rencL ds = es by rw [hes]; exact (encL_is (ds := ds) (by omega)).2)
      obtain ⟨dr, hdr⟩ : ∃ r, r = decL zs := ⟨_, rfl⟩
      have HDR := hid hdr
      have HZL := hid (show zs.length ≤ 35184372088832 by have := HL3.out; omega)
      have HSE := hid (show es.1.length ≤ 35184372088832 by
        rw [HES.out, (encL_is (ds := ds) (by omega)).1]
        split
        · simp
        · show (allB ds).length ≤ _
          rw [allB_len]
          have := (flatD_len ds).2
          omega)
      have G0 := hid (show es.2 = 0 → decL es.1 = (ds, 0) by
        intro h
        rw [HES.out, (encL_is (ds := ds) (by omega)).1] at h ⊢
        by_cases hb : badL ds = true
        · rw [if_pos hb] at h; cases h
        · rw [if_neg hb]
          exact dec_enc (badL_all (by simpa using hb)) (by omega))
      have G1 := hid (show dr.2 = 0 → encL dr.1 = (zs, 0) by
        intro h
        rw [HDR.out] at h ⊢
        obtain ⟨h1, h2⟩ := enc_dec HZ.out.bytes h
        have hlen : (decL zs).1.length ≤ 2000 := by
          have := congrArg List.length h1
          rw [allB_len] at this
          have := (flatD_len (decL zs).1).1
          have := HL3.out
          omega
        rw [(encL_is hlen).1, if_neg (by rw [badL_of h2]; simp), ← h1])
      clear hes hdr hl4
      go_wp2_with fail
      refine (dEncode_any wr _ ds (HX.out.keep KR.out)).mono ?_
      rw [← HES.out]
      rintro e w2 ⟨a2, c2, rfl, r2, -, k2⟩
      have R2 := hid r2
      have K2 := hid (KR.out.trans k2)
      clear r2 k2
      go_wp2_with fail
      refine (rdEnc_any w2 _ ds (HX.out.keep K2.out)).mono ?_
      rw [HRE.out]
      rintro e w3 ⟨a3, c3, rfl, r3, -, k3⟩
      have R23 := hid (R2.out.keep k3 (by intro _ _ _ _ _; simp))
      have R3 := hid r3
      have K3 := hid (K2.out.trans k3)
      clear r3 k3
      go_wp2_with fail
      refine (dDecode_any w3 _ zs (HZ.out.keep K3.out (by intro _ _ _ _ _; simp)) HZL.out).mono ?_
      rw [← HDR.out]
      rintro e w4 ⟨v4, rfl, d4, k4⟩
      have D4 := hid d4
      have R24 := hid (R23.out.keep k4 (by intro _ _ _ _ _; simp))
      have R34 := hid (R3.out.keep k4 (by intro _ _ _ _ _; simp))
      have K4 := hid (K3.out.trans k4)
      obtain ⟨a4, c4, rfl⟩ := d4.shape
      clear d4 k4
      go_wp2_with fail
      refine (rdDec_any w4 _ zs (HZ.out.keep K4.out (by intro _ _ _ _ _; simp)) HZL.out).mono ?_
      rw [← HDR.out]
      rintro e w5 ⟨v5, rfl, d5, k5⟩
      have D5 := hid d5
      have D45 := hid (D4.out.keep k5)
      have R25 := hid (R24.out.keep k5 (by intro _ _ _ _ _; simp))
      have R35 := hid (R34.out.keep k5 (by intro _ _ _ _ _; simp))
      have K5 := hid (K4.out.trans k5)
      obtain ⟨a5, c5, rfl⟩ := d5.shape
      clear d5 k5
      obtain ⟨xs, y⟩ := es
      obtain ⟨ps, gg⟩ := dr
      simp only at HSE G0 G1 R25 R35 D45 D5
      obtain ⟨sm, hsm⟩ : ∃ s, s = eqDL ds ks := ⟨_, rfl⟩
      have HSM := hid hsm
      clear hsm
      have hyy : (y != y) = false := by simp
      have hgg : (gg != gg) = false := by simp
      have hss : (sm != sm) = false := by simp
      go_wp2_with fail
      refine (same_any w5 _ _ xs xs R25.out R35.out HSE.out HSE.out).mono ?_
      rintro e w6 ⟨rfl, n, hw6⟩
      have k6 : Keeps [] w5 w6 := by rw [hw6]; exact (Keeps.refl _ _).drewN n
      rw [decide_eq_true (rfl : xs = xs)]
      have K6 := hid (K5.out.trans k6)
      have D46 := hid (D45.out.keep k6)
      have D56 := hid (D5.out.keep k6)
      have R26 := hid (R25.out.keep k6 (by intro _ _ _ _ _; simp))
      clear hw6 k6
      go_wp2_with fail
      refine (rdSame_any w6 _ _ ps ps D46.out D56.out).mono ?_
      rintro e w7 ⟨rfl, k7⟩
      rw [eqDL_is.2 (rfl : ps = ps)]
      have K7 := hid (K6.out.trans k7)
      have D47 := hid (D46.out.keep k7)
      have R27 := hid (R26.out.keep k7 (by intro _ _ _ _ _; simp))
      clear k7
      go_wp2_with fail
      refine (dSame_any w7 _ _ ds ks (HX.out.keep K7.out) (HY.out.keep K7.out)).mono ?_
      rw [← HSM.out]
      rintro e w8 ⟨rfl, k8⟩
      have K8 := hid (K7.out.trans k8)
      go_wp2_with fail
      refine (rdSame_any w8 _ _ ds ks (HX.out.keep K8.out) (HY.out.keep K8.out)).mono ?_
      rw [← HSM.out]
      rintro e w9 ⟨rfl, k9⟩
      have K9 := hid (K8.out.trans k9)
      have k79 := k8.trans k9
      go_wp2_with fail
      refine (dSame_any w9 _ _ ds ds (HX.out.keep K9.out) (HX.out.keep K9.out)).mono ?_
      rw [eqDL_is.2 (rfl : ds = ds)]
      rintro e wa ⟨rfl, ka⟩
      have KA := hid (K9.out.trans ka)
      have DA := hid (D47.out.keep (k79.trans ka))
      have RA := hid (R27.out.keep (k79.trans ka) (by intro _ _ _ _ _; simp))
      clear k8 k9 k79 ka hyy hgg hss
      by_cases hy0 : y = 0
      · have hyb : (y == 0) = true := by simpa using hy0
        have HEQ0 := hid (G0.out hy0)
        clear hy0
        go_wp2_with fail
        refine (dDecode_any wa _ xs RA.out HSE.out).mono ?_
        rw [HEQ0.out]
        rintro e wb ⟨vb, rfl, db, kb⟩
        have DB := hid db
        have KB := hid (KA.out.trans kb)
        have DAB := hid (DA.out.keep kb)
        obtain ⟨ab, cb, rfl⟩ := db.shape
        clear db kb
        go_wp2_with fail
        refine (rdSame_any wb _ _ ds ds DB.out (HX.out.keep KB.out)).mono ?_
        rintro e wd ⟨rfl, kd⟩
        rw [eqDL_is.2 (rfl : ds = ds)]
        have KDD := hid (KB.out.trans kd)
        have DAD := hid (DAB.out.keep kd)
        clear kd
        by_cases hg0 : gg = 0
        · have hgb : (gg == 0) = true := by simpa using hg0
          have HEQ := hid (G1.out hg0)
          clear hg0
          go_wp2_with fail
          refine (dEncode_any _ _ ps DAD.out).mono ?_
          rw [HEQ.out]
          rintro e wc ⟨a7, c7, rfl, r7, -, k7⟩
          have R7 := hid r7
          have K7' := hid (KDD.out.trans k7)
          clear r7 k7
          go_wp2_with fail
          refine (same_any wc _ _ zs zs R7.out (HZ.out.keep K7'.out (by intro _ _ _ _ _; simp)) HZL.out HZL.out).mono ?_
          rintro e w6 ⟨rfl, n, hw6⟩
          have k6 : Keeps [] wc w6 := by rw [hw6]; exact (Keeps.refl _ _).drewN n
          rw [decide_eq_true (rfl : zs = zs)]
          have K8' := hid (K7'.out.trans k6)
          clear hw6 k6
          go_wp2_with fail
          go_ret
          exact ⟨rfl, K8'.out⟩
        · have hgb : (gg == 0) = false := by simpa using hg0
          clear hg0
          go_wp2_with fail
          go_ret
          exact ⟨rfl, KDD.out⟩
      · have hyb : (y == 0) = false := by simpa using hy0
        clear hy0
        by_cases hg0 : gg = 0
        · have hgb : (gg == 0) = true := by simpa using hg0
          have HEQ := hid (G1.out hg0)
          clear hg0
          go_wp2_with fail
          refine (dEncode_any _ _ ps DA.out).mono ?_
          rw [HEQ.out]
          rintro e wc ⟨a7, c7, rfl, r7, -, k7⟩
          have R7 := hid r7
          have K7' := hid (KA.out.trans k7)
          clear r7 k7
          go_wp2_with fail
          refine (same_any wc _ _ zs zs R7.out (HZ.out.keep K7'.out (by intro _ _ _ _ _; simp)) HZL.out HZL.out).mono ?_
          rintro e w6 ⟨rfl, n, hw6⟩
          have k6 : Keeps [] wc w6 := by rw [hw6]; exact (Keeps.refl _ _).drewN n
          rw [decide_eq_true (rfl : zs = zs)]
          have K8' := hid (K7'.out.trans k6)
          clear hw6 k6
          go_wp2_with fail
          go_ret
          exact ⟨rfl, K8'.out⟩
        · have hgb : (gg == 0) = false := by simpa using hg0
          clear hg0
          go_wp2_with fail
          go_ret
          exact ⟨rfl, KA.out⟩
end Go.Proofs.Ytamcllcjondcpaa
