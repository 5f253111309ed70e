/- pack: the walk of the law PackBack. -/
import Derived.Test.YtcfmonlgpccndaaDoorPkK
import Derived.Test.YtcfmonlgpccndaaDoorPkMp
import Derived.Test.YtcfmonlgpccndaaDoorPkG25
namespace Go.Proofs.YtcfmonlgpccndaaDoor
open Go.RowKit Go.Shelf
set_option maxRecDepth 100000
set_option linter.unusedSimpArgs false
set_option linter.unusedVariables false

theorem pack_err {ino size : Int} {f : Spe} {n : Int} {l : List Db} (h : (packL ino size f n l).2.2 ≠ 0) : (packL ino size f n l).1 = [] ∧ (packL ino size f n l).2.1 = [] := by
  unfold packL at *
  by_cases h1 : maySv n = true ∧ mayE f = true ∧ btw ino 2 128 = true ∧ btw size 0 4096 = true ∧ lieB l size = true
  · rw [if_pos h1] at h ⊢
    by_cases h2 : 1073741824 < f.n + (layF f (mostI n) (bsOf l) l.length).length - 1
    · rw [if_pos h2]; exact ⟨rfl, rfl⟩
    · rw [if_neg h2] at h; exact absurd rfl h
  · rw [if_neg h1]; exact ⟨rfl, rfl⟩
structure PackOk (ino size : Int) (f : Spe) (n : Int) (l : List Db) : Prop where
  sv : 3 ≤ n ∧ n ≤ 16
  e : mayE f = true
  sz : 0 ≤ size ∧ size ≤ 4096
  lie : lieB l size = true
  few : f.n + (layF f (mostI n) (bsOf l) l.length).length - 1 ≤ 1073741824
  is : packL ino size f n l = (layF f (mostI n) (bsOf l) l.length, delsL ino size l (ptrsL f (mostI n) (bsOf l) l.length) l.length ++ [cutD ino size], 0)
theorem pack_ok {ino size : Int} {f : Spe} {n : Int} {l : List Db} (h : (packL ino size f n l).2.2 = 0) : PackOk ino size f n l := by
  by_cases h1 : maySv n = true ∧ mayE f = true ∧ btw ino 2 128 = true ∧ btw size 0 4096 = true ∧ lieB l size = true
  · by_cases h2 : 1073741824 < f.n + (layF f (mostI n) (bsOf l) l.length).length - 1
    · unfold packL at h
      rw [if_pos h1, if_pos h2] at h
      exact absurd h (by decide)
    · exact ⟨maySv_is.1 h1.1, h1.2.1, btw_is.1 h1.2.2.2.1, h1.2.2.2.2, by omega, by unfold packL; rw [if_pos h1, if_neg h2]⟩
  · unfold packL at h
    rw [if_neg h1] at h
    exact absurd h (by decide)
theorem bs_short {xs : List Dr} {size : Int} (h : lieB (dbs xs) size = true) (k : Nat) : ((bsOf (dbs xs)).getD k []).length ≤ 64 := by
  rw [bsOf_get]
  by_cases hk : k < xs.length
  · rw [dbs_get hk]; exact lie_short h _ (List.getElem_mem hk)
  · rw [List.getD_eq_getElem?_getD, List.getElem?_eq_none (by rw [dbs_len]; omega)]; simp [default, instInhabitedDb.default]
/-- What PackBack asks of the map behind all deltas. -/
theorem back_at {xs : List Dr} {ino size : Int} {f : Spe} {n : Int} (P : PackOk ino size f n (dbs xs)) {i : Nat} (hi : i < xs.length) :
    atB (runD bk0 (delsL ino size (dbs xs) (ptrsL f (mostI n) (bsOf (dbs xs)) xs.length) xs.length ++ [cutD ino size])).L xs[i].b = ptrK f (mostI n) (bsOf (dbs xs)) i := by
  have hp : ∀ k, k < (dbs xs).length → mayP ((ptrsL f (mostI n) (bsOf (dbs xs)) (dbs xs).length).getD k pZ) = true := fun k hk => by
    rw [List.getD_eq_getElem?_getD, List.getElem?_eq_getElem (by rw [ptrs_len]; exact hk), Option.getD_some, ptrs_get]
    exact ptr_may P.e P.sv (bs_short P.lie) hk P.few
  have h := (runD_pack (ino := ino) good0 (show bk0.sz ≤ size from P.sz.1) P.sz.1 P.sz.2 P.lie hp).2 xs[i].b
  have e : xs[i].b = ((dbs xs).getD i default).b := by rw [dbs_get hi]; rfl
  rw [e, pick_own P.lie _ (by rw [dbs_len]; exact hi) (Nat.le_refl _)] at h
  rw [dbs_len] at h
  rw [e, h, List.getD_eq_getElem?_getD, List.getElem?_eq_getElem (by rw [ptrs_len]; exact hi), Option.getD_some, ptrs_get]
theorem back_sz {xs : List Dr} {ino size : Int} {f : Spe} {n : Int} (P : PackOk ino size f n (dbs xs)) :
    (runD bk0 (delsL ino size (dbs xs) (ptrsL f (mostI n) (bsOf (dbs xs)) xs.length) xs.length ++ [cutD ino size])).sz = size := by
  have hp : ∀ k, k < (dbs xs).length → mayP ((ptrsL f (mostI n) (bsOf (dbs xs)) (dbs xs).length).getD k pZ) = true := fun k hk => by
    rw [List.getD_eq_getElem?_getD, List.getElem?_eq_getElem (by rw [ptrs_len]; exact hk), Option.getD_some, ptrs_get]
    exact ptr_may P.e P.sv (bs_short P.lie) hk P.few
  have h := (runD_pack (ino := ino) good0 (show bk0.sz ≤ size from P.sz.1) P.sz.1 P.sz.2 P.lie hp).1
  rw [dbs_len] at h
  exact h
theorem range_fst9 {w : World} {b off : Nat} {s : Spe} {a k : Int} (h : w.rangeAt b off (ptrS s a k).cells) : w.rangeAt b off s.cells := fun j u hu => h j u (by
  rcases j with _ | _ | _ | j <;> simp [Spe.cells, Pt.cells, ptrS] at hu ⊢ <;> exact hu)
set_option maxHeartbeats 51200000 in
theorem pBack_any (w : World) (z m : Int) (v : Value) (xs : List Dr) (hz : 0 ≤ z ∧ z ≤ 65535) (hm : -9223372036854775808 ≤ m ∧ m ≤ 9223372036854775807) (hv : DsAt w v xs) :
    Calls Tryd.prog 5 #[.int .u16 z, .int .i64 m, v] w fun e w' => e = .returned (.bool true) ∧ Keeps [] w w' := by
  obtain ⟨z0, z1⟩ := hz
  obtain ⟨c, hc⟩ : ∃ c : Nat, z.tmod 4097 = (c : Int) := ⟨(z.tmod 4097).toNat, by have := Int.tmod_nonneg 4097 z0; omega⟩
  have hc96 : c ≤ 4096 := by have := Int.tmod_lt_of_pos z (show (0 : Int) < 4097 by decide); omega
  obtain ⟨a, cv, rfl⟩ := hv.shape
  have AW := hid (pAwake_any w)
  have HM := hid hm
  have HV := hid hv
  obtain ⟨nn, hnn⟩ : ∃ nn : Int, nn = 3 + m % 14 := ⟨_, rfl⟩
  have n3 : 3 ≤ nn := by have := Int.emod_nonneg m (show (14 : Int) ≠ 0 by decide); omega
  have n16 : nn ≤ 16 := by have := Int.emod_lt_of_pos m (show (0 : Int) < 14 by decide); omega
  have SV := hid (fun W => yServers_any W m)
  rw [← hnn] at SV
  clear hnn hm hv
  go_enter Tryd.func5, Tryd.ntmps5
  go_wp2_with fail
  refine AW.out.mono ?_
  rintro e w1 ⟨rfl, k1⟩
  have K1 := hid k1
  clear k1
  go_wp2_with fail
  refine (pSmall_any w1 _ xs (HV.out.keep K1.out)).mono ?_
  cases hsm : small14 (dbs xs) with
  | false =>
    rintro e w2 ⟨rfl, k2⟩
    have K2 := hid (K1.out.trans k2)
    clear k2 hsm
    go_wp2_with fail
    go_ret
    exact ⟨rfl, K2.out⟩
  | true =>
    rintro e w2 ⟨rfl, k2⟩
    have K2 := hid (K1.out.trans k2)
    have h70 := (small14_is hsm).1
    rw [dbs_len] at h70
    clear k2 hsm
    go_wp2_with fail
    refine (SV.out w2).mono ?_
    rintro e _ ⟨rfl, rfl⟩
    have A2 := hid (yStripe_any w2 m HM.out)
    go_wp2_with fail
    refine A2.out.mono ?_
    rintro e w3 ⟨rfl, k3⟩
    have K3 := hid (K2.out.trans k3)
    unfold speV
    clear k3
    go_wp2_with fail
    refine (pDirty_any w3 _ xs (HV.out.keep K3.out) h70).mono ?_
    rintro e w4 ⟨u, rfl, d4, k4⟩
    have K4 := hid (K3.out.trans k4)
    have HP := hid (pPack_any w4 2 (c : Int) (speM m) nn u xs d4)
    have HDU := hid d4
    clear k4 d4
    go_wp2_with fail
    refine HP.out.mono ?_
    rintro e w5 ⟨va, vd, rfl, f5, d5, k5⟩
    have K5 := hid (K4.out.trans k5)
    obtain ⟨aa, ca, rfl⟩ := f5.shape
    obtain ⟨ad, cd, rfl⟩ := d5.shape
    by_cases herr : (packL 2 (c : Int) (speM m) nn (dbs xs)).2.2 = 0
    · have P := pack_ok herr
      rw [P.is] at f5 d5
      rw [P.is]
      simp only at f5 d5 ⊢
      have BA := hid (fun i (hi : i < xs.length) => back_at P hi)
      have BS := hid (back_sz P)
      rw [dbs_len] at f5 d5 ⊢
      have PI := hid (fun i (hi : i < xs.length) => ptr_in (f := speM m) (m := mostI nn) (bs_short P.lie) (by unfold mostI; omega) (k := i) hi)
      have GF := hid (good_lay (f := speM m) (m := mostI nn) (bs_short P.lie) (by unfold mostI; omega) xs.length)
      have SH := hid (lie_short P.lie)
      have BG := hid (fun i (hi : i < xs.length) => show (bsOf (dbs xs)).getD i [] = xs[i].d by rw [bsOf_get, dbs_get hi]; rfl)
      have hfl70 := lay_le (speM m) (mostI nn) (bsOf (dbs xs)) xs.length
      obtain ⟨fl, hfl⟩ : ∃ fl, fl = layF (speM m) (mostI nn) (bsOf (dbs xs)) xs.length := ⟨_, rfl⟩
      rw [← hfl] at f5 PI GF hfl70 ⊢
      obtain ⟨ds, hds⟩ : ∃ ds, ds = delsL 2 (c : Int) (dbs xs) (ptrsL (speM m) (mostI nn) (bsOf (dbs xs)) xs.length) xs.length ++ [cutD 2 (c : Int)] := ⟨_, rfl⟩
      rw [← hds] at d5 BA BS ⊢
      have hdl : ds.length ≤ 71 := by rw [hds]; simp [dels_len]; omega
      have F5 := hid f5
      have D5 := hid d5
      have N5 := hid (zNew_any w5)
      clear hfl hds f5 d5 k5 P herr HP
      go_wp2_with fail
      refine N5.out.mono ?_
      rintro e w6 ⟨rfl, rfl⟩
      have B6 := bk_new w5 []
      have k6 : Keeps [] w5 (w5.alloc (.cells #[.bool true, .int .i64 0, .slice none 0 0] 76)) := (Keeps.refl [] w5).alloc _
      have hq5 := k6.size
      generalize hq : w5.heap.size = q at B6 hq5 ⊢
      generalize w5.alloc (.cells #[.bool true, .int .i64 0, .slice none 0 0] 76) = w6 at B6 k6 hq5 ⊢
      have HB6 := hid B6
      have HK6 := hid k6
      have HQ := hid hq
      clear B6 k6 hq5 hq
      go_wp2_with fail
      go_loopw [12] (fun iv wr => ∃ k : Nat, iv = .int .i64 k ∧ k ≤ ds.length ∧ Hid (BkAt wr [q] q (runD bk0 (ds.take k))) ∧ Hid (Keeps [] w5 wr)) (fun iv _ => ds.length - (intOf iv).toNat)
      case atStart => exact ⟨0, rfl, Nat.zero_le _, HB6, HK6⟩
      case round =>
        obtain ⟨k, rfl, hk, HBK, HK⟩ := hrel
        by_cases hlt : k < ds.length
        · obtain ⟨gd, od, rfl, hg, R⟩ := (D5.out.keep HK.out).at k hlt
          have HT := hid (runD_take (s := bk0) hlt)
          obtain ⟨y, hy⟩ : ∃ y, y = ds[k] := ⟨_, rfl⟩
          rw [← hy] at R HT
          have HR := hid R
          clear hy R hg
          go_wp2_with (first | (refine wpList_isW rfl _ _ (exec_load _ _ _ _ rfl rfl (loadDl_run _ gd (od + k * 14) y HR.out)) ?_) | fail)
          refine (apply_new (w := w5) HK.out HBK.out (fun b hb => by simp at hb; rw [hb]; exact HBK.out.lt) (by rw [HQ.out]; exact Nat.le_refl _) y).mono ?_
          rintro e wb ⟨a2, c2, rfl, o2, b2, k2, z2, q2⟩
          have HB2 := hid (show BkAt wb [q] q (runD bk0 (ds.take (k + 1))) by rw [HT.out]; exact b2)
          have HK2 := hid k2
          clear o2 b2 k2 z2 q2
          go_wp2_with fail
          go_roundw
          case rel => exact ⟨k + 1, by go_num, by omega, HB2, HK2⟩
          case measure => simp [intOf]; omega
        · obtain rfl : k = ds.length := by omega
          have B7 := HBK.out
          rw [List.take_length] at B7
          obtain ⟨S, hS⟩ : ∃ S, S = runD bk0 ds := ⟨_, rfl⟩
          rw [← hS] at B7 BA BS
          have HB7 := hid B7
          have HSZ := hid (zSize_any B7)
          have hsz := BS.out
          rw [hsz] at HSZ
          clear hS B7 hsz
          go_wp2_with (first | (go_at_call 20; refine HSZ.out.mono ?_; rintro e _ ⟨rfl, rfl⟩) | fail)
          rename World => w7
          go_loopw [13] (fun iv wr => ∃ i : Nat, iv = .int .i64 i ∧ i ≤ xs.length ∧ Hid (Keeps [] w7 wr)) (fun iv _ => xs.length - (intOf iv).toNat)
          case atStart => exact ⟨0, rfl, Nat.zero_le _, hid (Keeps.refl _ _)⟩
          case round =>
            obtain ⟨i, rfl, hi, HI⟩ := hrel
            have HWI := hid (HK.out.trans HI.out)
            have HW0 := hid (K5.out.trans HWI.out)
            by_cases hil : i < xs.length
            · obtain ⟨g, off, rfl, hg, D⟩ := (HV.out.keep HW0.out).at i hil
              have hba := BA.out i hil
              have hbg := BG.out i hil
              have hpi := PI.out i hil
              have hsh := SH.out _ (List.getElem_mem hil)
              obtain ⟨x, hx⟩ : ∃ x, x = xs[i] := ⟨_, rfl⟩
              rw [← hx] at D hba hbg hsh
              clear hx
              obtain ⟨a', c', hr, _⟩ := id D.row
              obtain ⟨bb, br, bd⟩ := x
              simp only at hr hba hbg hsh
              subst hr
              have HD := hid D
              obtain ⟨p, hp⟩ : ∃ p, p = ptrK (speM m) (mostI nn) (bsOf (dbs xs)) i := ⟨_, rfl⟩
              have hpz : (trimL bd).length = 0 → p = pZ := fun h => by rw [hp]; unfold ptrK; rw [hbg, if_pos h]
              rw [← hp] at hba hpi
              rw [hbg] at hpi
              have HPZ := hid hpz
              have HPI := hid hpi
              have AT := zAt_any (HB7.out.later HI.out) bb
              rw [hba] at AT
              have HAT := hid AT
              have c0 : wr.cell? ⟨g, off + i * 2, none⟩ = some (.int .i64 bb) := D.rg 0 _ rfl
              clear D AT hba hbg hpi hp hpz hg
              go_wp2_with fail
              refine HAT.out.mono ?_
              rintro e w8 ⟨rfl, k8⟩
              obtain ⟨w9, hw9⟩ : ∃ W, W = w8.alloc (.cells p.cells.toArray 36) := ⟨_, rfl⟩
              have HW9 := hid hw9
              have K9 := hid (show Keeps [] wr w9 by rw [hw9]; exact k8.alloc _)
              have P9 := hid (show w9.rangeAt w8.heap.size 0 p.cells by rw [hw9]; exact range_new w8 p.cells 36)
              have L9 := hid (show w8.heap.size < w9.heap.size by rw [hw9]; simp)
              have c1 : w9.cell? ⟨g, off + i * 2 + 1, none⟩ = some (.slice a' bd.length c') := K9.out.cell' (HD.out.rg 1 _ rfl) (by simp)
              have TR := hid (rkTrim_any w9 (.slice a' bd.length c') bd (HD.out.row.keep K9.out (by intro _ _ _ _ _; simp)) (by omega))
              clear hw9 k8 c0
              go_wp2_with (first | (refine wpList_is rfl _ _ (exec_alloc 36 pZ.cells.toArray iPtr2 rfl) ?_) | (refine wpList_noval rfl _ (exec_storeNew 36 _ _ rfl w8 pZ.cells.toArray p.cells.toArray rfl rfl rfl iPtr2 rfl (cells_one _)) ?_; rw [← HW9.out]) | fail)
              refine TR.out.mono ?_
              rintro e w10 ⟨a3, c3, rfl, r3, n3', k3⟩
              have K10 := hid (K9.out.trans k3)
              have R3 := hid r3
              have P10 := hid (range_keep P9.out k3 (by simp))
              have L10 := hid (Nat.lt_of_lt_of_le L9.out k3.size)
              have htl := trim_le bd
              obtain ⟨tl, htl2⟩ : ∃ tl, tl = trimL bd := ⟨_, rfl⟩
              rw [← htl2] at R3 htl HPI HPZ ⊢
              clear r3 n3' k3 htl2 c1
              by_cases h0 : tl.length = 0
              · have hpp := HPZ.out h0
                subst hpp
                rw [h0]
                go_wp2_with (first | (refine wpList_isW rfl _ _ (exec_load _ _ _ _ rfl rfl (loadPt_run _ w8.heap.size 0 pZ P10.out)) ?_) | (refine wpList_is rfl _ _ (exec_buildPtZ rfl) ?_) | (refine wpList_is rfl (.bool false) _ ((exec_neqPts _ _ _ pZ pZ rfl rfl rfl).trans (by rw [eqP_is.2 rfl]; rfl)) ?_) | fail)
                go_roundw
                case rel => exact ⟨i + 1, by go_num, by omega, hid (HI.out.trans K10.out)⟩
                case measure => simp [intOf]; omega
              · obtain ⟨jj, hjj, at0, hpe, hple, hpt⟩ := HPI.out h0
                have htz : ((tl.length : Int) == 0) = false := by rw [beq_eq_false_iff_ne]; omega
                have htz2 : (tl.length == 0) = false := by rw [beq_eq_false_iff_ne]; omega
                have hd6 := GF.out.few jj hjj
                have hm6 : mostI nn ≤ 6000 := by unfold mostI; omega
                have HPT := hid hpt
                have HPL := hid hple
                have HJJ := hid hjj
                have ha6 : at0 ≤ 6000 := by omega
                subst hpe
                have K510 := hid (HWI.out.trans K10.out)
                clear hpt hple h0 hd6 hm6
                go_wp2_with fail
                go_loopw [16, 17] (fun ov kv wr => ∃ j : Nat, kv = .int .i64 j ∧ j ≤ fl.length ∧ ov = .bool (decide (jj < j)) ∧ Hid (Keeps [] w10 wr)) (fun _ kv _ => fl.length - (intOf kv).toNat)
                case atStart => exact ⟨0, rfl, Nat.zero_le _, by simp, hid (Keeps.refl _ _)⟩
                case round =>
                  obtain ⟨j, rfl, hj, rfl, HJ⟩ := hrel
                  by_cases hjl : j < fl.length
                  · obtain ⟨ga, oa, rfl, hga, F0⟩ := (F5.out.keep (K510.out.trans HJ.out)).at j hjl
                    have R0 := F0.name
                    rw [GF.out.st j hjl] at R0
                    obtain ⟨ar, cr, cd3, rw3⟩ := F0.data
                    have hfew := GF.out.few j hjl
                    have hm6 : mostI nn ≤ 6000 := by unfold mostI; omega
                    have HR0 := hid R0
                    have HC3 := hid cd3
                    have HRW := hid rw3
                    have HGA := hid hga
                    have P11 := hid (range_keep P10.out HJ.out (by simp))
                    have L11 := hid (Nat.lt_of_lt_of_le L10.out HJ.out.size)
                    have EQ := hid (show decide (nextS (speM m) j = nextS (speM m) jj) = decide (j = jj) by
                      by_cases e : j = jj
                      · subst e; simp
                      · have : ¬ nextS (speM m) j = nextS (speM m) jj := fun h => by
                          have := congrArg Spe.n h
                          simp only [nextS] at this
                          omega
                        simp [e, this])
                    have hdl6 : (fl[j]).d.length ≤ 6000 := by omega
                    clear F0 R0 cd3 rw3 hga hfew hm6
                    go_wp2_with fail
                    refine wp_region_any (by kernel_rfl) (wpAny_of_held (S := KpS [] wr.heap.size wr.drew) _ _ _ _ ?_)
                    change wpAnyH _ _ _ _ _ _ _ _ wr.drew
                    have D0 : ∀ W1, KpS [] wr.heap.size wr.drew W1 → W1.rangeAt ga (oa + j * 4) (nextS (speM m) j).cells := fun W1 h t u hu => h.cell (by rw [World.cell?_drew]; exact HR0.out t u hu) HGA.out (by simp)
                    have D3 : ∀ W1, KpS [] wr.heap.size wr.drew W1 → W1.cell? ⟨ga, oa + j * 4 + 3, none⟩ = some (.slice ar (fl[j]).d.length cr) := fun W1 h => h.cell (by rw [World.cell?_drew]; exact HC3.out) HGA.out (by simp)
                    have DP : ∀ W1, KpS [] wr.heap.size wr.drew W1 → W1.rangeAt w8.heap.size 0 (ptrS (nextS (speM m) jj) at0 tl.length).cells := fun W1 h t u hu => h.cell (by rw [World.cell?_drew]; exact P11.out t u hu) L11.out (by simp)
                    refine held_take (i := 0) (v := .slice (some ⟨ga, oa, none⟩) fl.length ca) rfl (by kernel_rfl) (by kernel_rfl) (by kernel_rfl) (fun _ _ _ h => h) rfl (fun W1 hW1 => rfl) (KpS.refl _ _ _) ?_
                    simp only [Act.put, List.setIfInBounds_toArray, List.set_cons_zero, List.set_cons_succ]
                    refine held_take (i := 1) (v := .int .i64 (j : Int)) rfl (by kernel_rfl) (by kernel_rfl) (by kernel_rfl) (fun _ _ _ h => h) rfl (fun W1 hW1 => rfl) (KpS.refl _ _ _) ?_
                    simp only [Act.put, List.setIfInBounds_toArray, List.set_cons_zero, List.set_cons_succ]
                    refine held_take (i := 2) (v := .pointer (some ⟨ga, oa + j * 4, none⟩)) rfl (by kernel_rfl) (by kernel_rfl) (by kernel_rfl) (fun _ _ _ h => h) rfl (fun W1 hW1 => by go_simp) (KpS.refl _ _ _) ?_
                    simp only [Act.put, List.setIfInBounds_toArray, List.set_cons_zero, List.set_cons_succ]
                    refine held_take (i := 3) (v := .pointer (some ⟨ga, oa + j * 4, none⟩)) rfl (by kernel_rfl) (by kernel_rfl) (by kernel_rfl) (fun _ _ _ h => h) rfl (fun W1 hW1 => by go_simp) (KpS.refl _ _ _) ?_
                    simp only [Act.put, List.setIfInBounds_toArray, List.set_cons_zero, List.set_cons_succ]
                    refine held_take (i := 4) (v := speV (nextS (speM m) j)) rfl (by kernel_rfl) (by kernel_rfl) (by kernel_rfl) (fun _ _ _ h => h) rfl (fun W1 hW1 => exec_load _ _ _ _ rfl rfl (loadSpe W1 ga (oa + j * 4) _ (D0 W1 hW1))) (KpS.refl _ _ _) ?_
                    simp only [Act.put, List.setIfInBounds_toArray, List.set_cons_zero, List.set_cons_succ]
                    refine held_take (i := 5) (v := .pointer (some ⟨w8.heap.size, 0, none⟩)) rfl (by kernel_rfl) (by kernel_rfl) (by kernel_rfl) (fun _ _ _ h => h) rfl (fun W1 hW1 => by go_simp) (KpS.refl _ _ _) ?_
                    simp only [Act.put, List.setIfInBounds_toArray, List.set_cons_zero, List.set_cons_succ]
                    refine held_take (i := 6) (v := speV (nextS (speM m) jj)) rfl (by kernel_rfl) (by kernel_rfl) (by kernel_rfl) (fun _ _ _ h => h) rfl (fun W1 hW1 => exec_load _ _ _ _ rfl rfl (loadSpe W1 w8.heap.size 0 _ (range_fst9 (DP W1 hW1)))) (KpS.refl _ _ _) ?_
                    simp only [Act.put, List.setIfInBounds_toArray, List.set_cons_zero, List.set_cons_succ]
                    by_cases hjj2 : j = jj
                    · subst hjj2
                      have hle := HPL.out
                      refine held_take (i := 7) (v := .bool true) rfl (by kernel_rfl) (by kernel_rfl) (by kernel_rfl) (fun _ _ _ h => h) rfl (fun W1 hW1 => (exec_eqSpe _ _ _ _ _ rfl rfl rfl).trans (by rw [EQ.out]; simp)) (KpS.refl _ _ _) ?_
                      simp only [Act.put, List.setIfInBounds_toArray, List.set_cons_zero, List.set_cons_succ]
                      refine held_take (i := 8) (v := .bool true) rfl (by kernel_rfl) (by kernel_rfl) (by kernel_rfl) (fun _ _ _ h => h) rfl (fun W1 hW1 => rfl) (KpS.refl _ _ _) ?_
                      simp only [Act.put, List.setIfInBounds_toArray, List.set_cons_zero, List.set_cons_succ]
                      refine held_takeW (i := 9) (v := .pointer (some ⟨w8.heap.size, 3, none⟩)) rfl (by kernel_rfl) (by kernel_rfl) (by kernel_rfl) (fun _ _ _ h => h) rfl (fun W1 hW1 => by go_simp) (KpS.refl _ _ _) ?_
                      simp only [Act.put, List.setIfInBounds_toArray, List.set_cons_zero, List.set_cons_succ]
                      refine held_takeW (i := 10) (v := .int .i64 (at0 : Int)) rfl (by kernel_rfl) (by kernel_rfl) (by kernel_rfl) (fun _ _ _ h => h) rfl (fun W1 hW1 => exec_load _ _ _ _ rfl rfl (run_loadCell W1 _ _ _ ((DP W1 hW1) 3 _ rfl) (agg_no _ (by kernel_rfl)))) (KpS.refl _ _ _) ?_
                      simp only [Act.put, List.setIfInBounds_toArray, List.set_cons_zero, List.set_cons_succ]
                      refine held_takeW (i := 11) (v := .pointer (some ⟨w8.heap.size, 4, none⟩)) rfl (by kernel_rfl) (by kernel_rfl) (by kernel_rfl) (fun _ _ _ h => h) rfl (fun W1 hW1 => by go_simp) (KpS.refl _ _ _) ?_
                      simp only [Act.put, List.setIfInBounds_toArray, List.set_cons_zero, List.set_cons_succ]
                      refine held_takeW (i := 12) (v := .int .i64 (tl.length : Int)) rfl (by kernel_rfl) (by kernel_rfl) (by kernel_rfl) (fun _ _ _ h => h) rfl (fun W1 hW1 => exec_load _ _ _ _ rfl rfl (run_loadCell W1 _ _ _ ((DP W1 hW1) 4 _ rfl) (agg_no _ (by kernel_rfl)))) (KpS.refl _ _ _) ?_
                      simp only [Act.put, List.setIfInBounds_toArray, List.set_cons_zero, List.set_cons_succ]
                      refine held_takeW (i := 13) (v := .int .i64 ((at0 : Int) + (tl.length : Int))) rfl (by kernel_rfl) (by kernel_rfl) (by kernel_rfl) (fun _ _ _ h => h) rfl (fun W1 hW1 => by go_simp; exact IntWalk.i64_in _ (by omega)) (KpS.refl _ _ _) ?_
                      simp only [Act.put, List.setIfInBounds_toArray, List.set_cons_zero, List.set_cons_succ]
                      refine held_takeW (i := 14) (v := .slice (some ⟨ga, oa, none⟩) fl.length ca) rfl (by kernel_rfl) (by kernel_rfl) (by kernel_rfl) (fun _ _ _ h => h) rfl (fun W1 hW1 => rfl) (KpS.refl _ _ _) ?_
                      simp only [Act.put, List.setIfInBounds_toArray, List.set_cons_zero, List.set_cons_succ]
                      refine held_takeW (i := 15) (v := .int .i64 (j : Int)) rfl (by kernel_rfl) (by kernel_rfl) (by kernel_rfl) (fun _ _ _ h => h) rfl (fun W1 hW1 => rfl) (KpS.refl _ _ _) ?_
                      simp only [Act.put, List.setIfInBounds_toArray, List.set_cons_zero, List.set_cons_succ]
                      refine held_takeW (i := 16) (v := .pointer (some ⟨ga, oa + j * 4, none⟩)) rfl (by kernel_rfl) (by kernel_rfl) (by kernel_rfl) (fun _ _ _ h => h) rfl (fun W1 hW1 => by go_simp) (KpS.refl _ _ _) ?_
                      simp only [Act.put, List.setIfInBounds_toArray, List.set_cons_zero, List.set_cons_succ]
                      refine held_takeW (i := 17) (v := .pointer (some ⟨ga, oa + j * 4 + 3, none⟩)) rfl (by kernel_rfl) (by kernel_rfl) (by kernel_rfl) (fun _ _ _ h => h) rfl (fun W1 hW1 => by go_simp) (KpS.refl _ _ _) ?_
                      simp only [Act.put, List.setIfInBounds_toArray, List.set_cons_zero, List.set_cons_succ]
                      refine held_takeW (i := 18) (v := .slice ar (fl[j]).d.length cr) rfl (by kernel_rfl) (by kernel_rfl) (by kernel_rfl) (fun _ _ _ h => h) rfl (fun W1 hW1 => exec_load _ _ _ _ rfl rfl (run_loadCell W1 _ _ _ (D3 W1 hW1) (agg_no _ (by kernel_rfl)))) (KpS.refl _ _ _) ?_
                      simp only [Act.put, List.setIfInBounds_toArray, List.set_cons_zero, List.set_cons_succ]
                      refine held_takeW (i := 19) (v := .int .i64 ((fl[j]).d.length : Int)) rfl (by kernel_rfl) (by kernel_rfl) (by kernel_rfl) (fun _ _ _ h => h) rfl (fun W1 hW1 => by go_simp) (KpS.refl _ _ _) ?_
                      simp only [Act.put, List.setIfInBounds_toArray, List.set_cons_zero, List.set_cons_succ]
                      refine held_takeW (i := 20) (v := .bool true) rfl (by kernel_rfl) (by kernel_rfl) (by kernel_rfl) (fun _ _ _ h => h) rfl (fun W1 hW1 => by go_simp <;> omega) (KpS.refl _ _ _) ?_
                      simp only [Act.put, List.setIfInBounds_toArray, List.set_cons_zero, List.set_cons_succ]
                      refine held_take (i := 21) (v := .bool true) rfl (by kernel_rfl) (by kernel_rfl) (by kernel_rfl) (fun _ _ _ h => h) rfl (fun W1 hW1 => by go_simp) (KpS.refl _ _ _) ?_
                      simp only [Act.put, List.setIfInBounds_toArray, List.set_cons_zero, List.set_cons_succ]
                      refine wpAnyH_done (by kernel_rfl) ?_ _
                      clear D0 D3 DP
                      obtain ⟨a1, sub1, sub2, _⟩ := row_sub HRW.out at0 tl.length hle
                      have hrow1 := sub2 wr.drew.drew (HRW.out.keep ((Keeps.refl [] wr).drew.drew) (by intro _ _ _ _ _; simp))
                      rw [HPT.out] at hrow1
                      have SM := same_any wr.drew.drew _ _ tl tl hrow1 (R3.out.keep (HJ.out.drew.drew) (by intro _ _ _ _ _; simp)) (by omega) (by omega)
                      rw [decide_eq_true rfl] at SM
                      have HSM := hid SM
                      have SUB := hid sub1
                      clear sub1 sub2 hrow1 SM
                      go_wp2_with fail
                      refine wp_region_any (by kernel_rfl) (wpAny_of_held (S := KpS [] wr.heap.size wr.drew.drew) _ _ _ _ ?_)
                      change wpAnyH _ _ _ _ _ _ _ _ wr.drew.drew
                      have s0 : KpS [] wr.heap.size wr.drew.drew wr.drew.drew := KpS.refl _ _ _
                      have D3 : ∀ W1, KpS [] wr.heap.size wr.drew.drew W1 → W1.cell? ⟨ga, oa + j * 4 + 3, none⟩ = some (.slice ar (fl[j]).d.length cr) := fun W1 h => h.cell (by rw [World.cell?_drew, World.cell?_drew]; exact HC3.out) HGA.out (by simp)
                      have DP : ∀ W1, KpS [] wr.heap.size wr.drew.drew W1 → W1.rangeAt w8.heap.size 0 (ptrS (nextS (speM m) j) at0 tl.length).cells := fun W1 h t u hu => h.cell (by rw [World.cell?_drew, World.cell?_drew]; exact P11.out t u hu) L11.out (by simp)
                      refine held_take (i := 0) (v := .slice (some ⟨ga, oa, none⟩) fl.length ca) rfl (by kernel_rfl) (by kernel_rfl) (by kernel_rfl) (fun _ _ _ h => h) rfl (fun W1 hW1 => rfl) (KpS.refl _ _ _) ?_
                      simp only [Act.put, List.setIfInBounds_toArray, List.set_cons_zero, List.set_cons_succ]
                      refine held_take (i := 1) (v := .int .i64 (j : Int)) rfl (by kernel_rfl) (by kernel_rfl) (by kernel_rfl) (fun _ _ _ h => h) rfl (fun W1 hW1 => rfl) (KpS.refl _ _ _) ?_
                      simp only [Act.put, List.setIfInBounds_toArray, List.set_cons_zero, List.set_cons_succ]
                      refine held_take (i := 2) (v := .pointer (some ⟨ga, oa + j * 4, none⟩)) rfl (by kernel_rfl) (by kernel_rfl) (by kernel_rfl) (fun _ _ _ h => h) rfl (fun W1 hW1 => by go_simp) (KpS.refl _ _ _) ?_
                      simp only [Act.put, List.setIfInBounds_toArray, List.set_cons_zero, List.set_cons_succ]
                      refine held_take (i := 3) (v := .pointer (some ⟨ga, oa + j * 4 + 3, none⟩)) rfl (by kernel_rfl) (by kernel_rfl) (by kernel_rfl) (fun _ _ _ h => h) rfl (fun W1 hW1 => by go_simp) (KpS.refl _ _ _) ?_
                      simp only [Act.put, List.setIfInBounds_toArray, List.set_cons_zero, List.set_cons_succ]
                      refine held_take (i := 4) (v := .slice ar (fl[j]).d.length cr) rfl (by kernel_rfl) (by kernel_rfl) (by kernel_rfl) (fun _ _ _ h => h) rfl (fun W1 hW1 => exec_load _ _ _ _ rfl rfl (run_loadCell W1 _ _ _ (D3 W1 hW1) (agg_no _ (by kernel_rfl)))) (KpS.refl _ _ _) ?_
                      simp only [Act.put, List.setIfInBounds_toArray, List.set_cons_zero, List.set_cons_succ]
                      refine held_take (i := 5) (v := .pointer (some ⟨w8.heap.size, 3, none⟩)) rfl (by kernel_rfl) (by kernel_rfl) (by kernel_rfl) (fun _ _ _ h => h) rfl (fun W1 hW1 => by go_simp) (KpS.refl _ _ _) ?_
                      simp only [Act.put, List.setIfInBounds_toArray, List.set_cons_zero, List.set_cons_succ]
                      refine held_take (i := 6) (v := .int .i64 (at0 : Int)) rfl (by kernel_rfl) (by kernel_rfl) (by kernel_rfl) (fun _ _ _ h => h) rfl (fun W1 hW1 => exec_load _ _ _ _ rfl rfl (run_loadCell W1 _ _ _ ((DP W1 hW1) 3 _ rfl) (agg_no _ (by kernel_rfl)))) (KpS.refl _ _ _) ?_
                      simp only [Act.put, List.setIfInBounds_toArray, List.set_cons_zero, List.set_cons_succ]
                      refine held_take (i := 7) (v := .pointer (some ⟨w8.heap.size, 3, none⟩)) rfl (by kernel_rfl) (by kernel_rfl) (by kernel_rfl) (fun _ _ _ h => h) rfl (fun W1 hW1 => by go_simp) (KpS.refl _ _ _) ?_
                      simp only [Act.put, List.setIfInBounds_toArray, List.set_cons_zero, List.set_cons_succ]
                      refine held_take (i := 8) (v := .int .i64 (at0 : Int)) rfl (by kernel_rfl) (by kernel_rfl) (by kernel_rfl) (fun _ _ _ h => h) rfl (fun W1 hW1 => exec_load _ _ _ _ rfl rfl (run_loadCell W1 _ _ _ ((DP W1 hW1) 3 _ rfl) (agg_no _ (by kernel_rfl)))) (KpS.refl _ _ _) ?_
                      simp only [Act.put, List.setIfInBounds_toArray, List.set_cons_zero, List.set_cons_succ]
                      refine held_take (i := 9) (v := .pointer (some ⟨w8.heap.size, 4, none⟩)) rfl (by kernel_rfl) (by kernel_rfl) (by kernel_rfl) (fun _ _ _ h => h) rfl (fun W1 hW1 => by go_simp) (KpS.refl _ _ _) ?_
                      simp only [Act.put, List.setIfInBounds_toArray, List.set_cons_zero, List.set_cons_succ]
                      refine held_take (i := 10) (v := .int .i64 (tl.length : Int)) rfl (by kernel_rfl) (by kernel_rfl) (by kernel_rfl) (fun _ _ _ h => h) rfl (fun W1 hW1 => exec_load _ _ _ _ rfl rfl (run_loadCell W1 _ _ _ ((DP W1 hW1) 4 _ rfl) (agg_no _ (by kernel_rfl)))) (KpS.refl _ _ _) ?_
                      simp only [Act.put, List.setIfInBounds_toArray, List.set_cons_zero, List.set_cons_succ]
                      refine held_take (i := 11) (v := .int .i64 ((at0 + tl.length : Nat) : Int)) rfl (by kernel_rfl) (by kernel_rfl) (by kernel_rfl) (fun _ _ _ h => h) rfl (fun W1 hW1 => by go_simp; exact IntWalk.i64_in _ (by omega)) (KpS.refl _ _ _) ?_
                      simp only [Act.put, List.setIfInBounds_toArray, List.set_cons_zero, List.set_cons_succ]
                      refine held_take (i := 12) (v := .slice a1 tl.length (cr - at0)) rfl (by kernel_rfl) (by kernel_rfl) (by kernel_rfl) (fun _ _ _ h => h) rfl (fun W1 hW1 => exec_sliceK 31 _ _ _ _ _ rfl (SUB.out W1)) (KpS.refl _ _ _) ?_
                      simp only [Act.put, List.setIfInBounds_toArray, List.set_cons_zero, List.set_cons_succ]
                      refine held_take (i := 13) (v := .slice a3 tl.length c3) rfl (by kernel_rfl) (by kernel_rfl) (by kernel_rfl) (fun _ _ _ h => h) rfl (fun W1 hW1 => rfl) (KpS.refl _ _ _) ?_
                      simp only [Act.put, List.setIfInBounds_toArray, List.set_cons_zero, List.set_cons_succ]
                      refine held_do (i := 14) (by kernel_rfl) rfl rfl (wp_enter (f := 16) (args := #[.slice a1 tl.length (cr - at0), .slice a3 tl.length c3]) (by go_simp) (HSM.out) ?_)
                      rintro e wz ⟨rfl, nz, rfl⟩
                      have kz : Keeps [] wr.drew.drew (wr.drew.drew.drewN nz) := (Keeps.refl [] _).drewN nz
                      have s1 : KpS [] wr.heap.size wr.drew.drew (wr.drew.drew.drewN nz) := s0.keeps kz s0.size (by simp)
                      refine ⟨_, rfl, s1, ?_⟩
                      simp only [Act.put, List.setIfInBounds_toArray, List.set_cons_zero, List.set_cons_succ]
                      refine held_take (i := 15) (v := .bool true) rfl (by kernel_rfl) (by kernel_rfl) (by kernel_rfl) (fun _ _ _ h => h) rfl (fun W1 hW1 => by go_simp) (s1) ?_
                      simp only [Act.put, List.setIfInBounds_toArray, List.set_cons_zero, List.set_cons_succ]
                      refine wpAnyH_done (by kernel_rfl) ?_ _
                      have KZ := hid (HJ.out.drew.drew.trans kz)
                      clear D3 DP s0 s1 kz
                      go_wp2_with fail
                      go_roundw
                      case rel => exact ⟨j + 1, by go_num, by omega, by simp, hid (HJ.out.drewN _)⟩
                      case measure => simp [intOf]; omega
                    · have hjn : decide (j = jj) = false := by simpa using hjj2
                      refine held_take (i := 7) (v := .bool false) rfl (by kernel_rfl) (by kernel_rfl) (by kernel_rfl) (fun _ _ _ h => h) rfl (fun W1 hW1 => (exec_eqSpe _ _ _ _ _ rfl rfl rfl).trans (by rw [EQ.out, hjn])) (KpS.refl _ _ _) ?_
                      simp only [Act.put, List.setIfInBounds_toArray, List.set_cons_zero, List.set_cons_succ]
                      refine held_take (i := 8) (v := .bool false) rfl (by kernel_rfl) (by kernel_rfl) (by kernel_rfl) (fun _ _ _ h => h) rfl (fun W1 hW1 => rfl) (KpS.refl _ _ _) ?_
                      simp only [Act.put, List.setIfInBounds_toArray, List.set_cons_zero, List.set_cons_succ]
                      refine held_skip (i := 9) rfl (by kernel_rfl) (by kernel_rfl) (by kernel_rfl) (fun _ _ _ h => h) rfl (KpS.refl _ _ _) ?_
                      simp only [Act.put, List.setIfInBounds_toArray, List.set_cons_zero, List.set_cons_succ]
                      refine held_skip (i := 10) rfl (by kernel_rfl) (by kernel_rfl) (by kernel_rfl) (fun _ _ _ h => h) rfl (KpS.refl _ _ _) ?_
                      simp only [Act.put, List.setIfInBounds_toArray, List.set_cons_zero, List.set_cons_succ]
                      refine held_skip (i := 11) rfl (by kernel_rfl) (by kernel_rfl) (by kernel_rfl) (fun _ _ _ h => h) rfl (KpS.refl _ _ _) ?_
                      simp only [Act.put, List.setIfInBounds_toArray, List.set_cons_zero, List.set_cons_succ]
                      refine held_skip (i := 12) rfl (by kernel_rfl) (by kernel_rfl) (by kernel_rfl) (fun _ _ _ h => h) rfl (KpS.refl _ _ _) ?_
                      simp only [Act.put, List.setIfInBounds_toArray, List.set_cons_zero, List.set_cons_succ]
                      refine held_skip (i := 13) rfl (by kernel_rfl) (by kernel_rfl) (by kernel_rfl) (fun _ _ _ h => h) rfl (KpS.refl _ _ _) ?_
                      simp only [Act.put, List.setIfInBounds_toArray, List.set_cons_zero, List.set_cons_succ]
                      refine held_skip (i := 14) rfl (by kernel_rfl) (by kernel_rfl) (by kernel_rfl) (fun _ _ _ h => h) rfl (KpS.refl _ _ _) ?_
                      simp only [Act.put, List.setIfInBounds_toArray, List.set_cons_zero, List.set_cons_succ]
                      refine held_skip (i := 15) rfl (by kernel_rfl) (by kernel_rfl) (by kernel_rfl) (fun _ _ _ h => h) rfl (KpS.refl _ _ _) ?_
                      simp only [Act.put, List.setIfInBounds_toArray, List.set_cons_zero, List.set_cons_succ]
                      refine held_skip (i := 16) rfl (by kernel_rfl) (by kernel_rfl) (by kernel_rfl) (fun _ _ _ h => h) rfl (KpS.refl _ _ _) ?_
                      simp only [Act.put, List.setIfInBounds_toArray, List.set_cons_zero, List.set_cons_succ]
                      refine held_skip (i := 17) rfl (by kernel_rfl) (by kernel_rfl) (by kernel_rfl) (fun _ _ _ h => h) rfl (KpS.refl _ _ _) ?_
                      simp only [Act.put, List.setIfInBounds_toArray, List.set_cons_zero, List.set_cons_succ]
                      refine held_skip (i := 18) rfl (by kernel_rfl) (by kernel_rfl) (by kernel_rfl) (fun _ _ _ h => h) rfl (KpS.refl _ _ _) ?_
                      simp only [Act.put, List.setIfInBounds_toArray, List.set_cons_zero, List.set_cons_succ]
                      refine held_skip (i := 19) rfl (by kernel_rfl) (by kernel_rfl) (by kernel_rfl) (fun _ _ _ h => h) rfl (KpS.refl _ _ _) ?_
                      simp only [Act.put, List.setIfInBounds_toArray, List.set_cons_zero, List.set_cons_succ]
                      refine held_skip (i := 20) rfl (by kernel_rfl) (by kernel_rfl) (by kernel_rfl) (fun _ _ _ h => h) rfl (KpS.refl _ _ _) ?_
                      simp only [Act.put, List.setIfInBounds_toArray, List.set_cons_zero, List.set_cons_succ]
                      refine held_take (i := 21) (v := .bool false) rfl (by kernel_rfl) (by kernel_rfl) (by kernel_rfl) (fun _ _ _ h => h) rfl (fun W1 hW1 => by go_simp) (KpS.refl _ _ _) ?_
                      simp only [Act.put, List.setIfInBounds_toArray, List.set_cons_zero, List.set_cons_succ]
                      refine wpAnyH_done (by kernel_rfl) ?_ _
                      clear D0 D3 DP
                      have HN := hid hjj2
                      clear hjn hjj2
                      go_wp2_with fail
                      go_roundw
                      case rel =>
                        refine ⟨j + 1, by go_num, by omega, ?_, hid HJ.out.drew⟩
                        have : decide (jj < j) = decide (jj < j + 1) := by
                          rw [decide_eq_decide]
                          have := HN.out
                          omega
                        rw [this]
                      case measure => simp [intOf]; omega
                  · obtain rfl : j = fl.length := by omega
                    rw [decide_eq_true HJJ.out]
                    go_wp2_with fail
                    go_roundw
                    case rel => exact ⟨i + 1, by go_num, by omega, hid ((HI.out.trans K10.out).trans HJ.out)⟩
                    case measure => simp [intOf]; omega
            · obtain rfl : i = xs.length := by omega
              go_wp2_with fail
              go_loopw [18] (fun kv wr => ∃ k : Nat, kv = .int .i64 k ∧ k ≤ fl.length ∧ Hid (Keeps [] w7 wr)) (fun kv _ => fl.length - (intOf kv).toNat)
              case atStart => exact ⟨0, rfl, Nat.zero_le _, HI⟩
              case round =>
                obtain ⟨k, rfl, hk, HK4⟩ := hrel
                by_cases hkl : k < fl.length
                · obtain ⟨ga, oa, rfl, hga, F0⟩ := (F5.out.keep (HK.out.trans HK4.out)).at k hkl
                  obtain ⟨ar, cr, cd3, _⟩ := F0.data
                  have hpos := GF.out.pos k hkl
                  have hfew := GF.out.few k hkl
                  have hfull := GF.out.full k hkl
                  obtain ⟨ld, hld⟩ : ∃ y, y = (fl[k]).d.length := ⟨_, rfl⟩
                  rw [← hld] at cd3 hpos hfew hfull
                  have h1 : ((ld : Int) == 0) = false := by rw [beq_eq_false_iff_ne]; omega
                  have h1b : (ld == 0) = false := by rw [beq_eq_false_iff_ne]; omega
                  have h2 : decide (400 * (nn - 1) < (ld : Int)) = false := by simp; unfold mostI at hfew; omega
                  clear F0 hga hld hpos hfew
                  by_cases hk1 : k + 1 < fl.length
                  · have hf := hfull hk1
                    have dk : decide ((k : Int) + 1 < (fl.length : Int)) = true := by simp; omega
                    have h3 : decide ((ld : Int) ≤ 400 * (nn - 1) - 64) = false := by simp; unfold mostI at hf; omega
                    clear hfull hf hk1
                    go_wp2_with fail
                    go_roundw
                    case rel => exact ⟨k + 1, by go_num, by omega, HK4⟩
                    case measure => simp [intOf]; omega
                  · have dk : decide ((k : Int) + 1 < (fl.length : Int)) = false := by simp; omega
                    clear hfull hk1
                    go_wp2_with fail
                    go_roundw
                    case rel => exact ⟨k + 1, by go_num, by omega, HK4⟩
                    case measure => simp [intOf]; omega
                · obtain rfl : k = fl.length := by omega
                  go_wp2_with fail
                  go_ret
                  exact ⟨rfl, (K5.out.trans HK.out).trans HK4.out⟩
    · obtain ⟨e1, e2⟩ := pack_err herr
      rw [e1, e2]
      obtain ⟨ev, hev⟩ : ∃ ev, ev = (packL 2 (c : Int) (speM m) nn (dbs xs)).2.2 := ⟨_, rfl⟩
      rw [← hev] at herr ⊢
      have hne : (ev != 0) = true := by simpa using herr
      clear f5 d5 k5 e1 e2 hev herr HP
      simp only [List.length_nil]
      go_wp2_with fail
      go_ret
      exact ⟨rfl, K5.out⟩
end Go.Proofs.YtcfmonlgpccndaaDoor
