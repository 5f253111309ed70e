/- delta: the walk of the law DeltaJoins, where all may be. -/
import Derived.Test.YtamcllcjondcpaaDeR
namespace Go.Proofs.Ytamcllcjondcpaa
open Go.RowKit Go.Shelf
set_option maxRecDepth 100000
set_option linter.unusedSimpArgs false

theorem wrap8 (x : Int) : IntKind.u8.wrap x = x % 256 := by rfl
theorem enc_zero {ds : List Dl} (hl : ds.length ≤ 2000) (h : (encL ds).2 = 0) : (∀ x ∈ ds, mayL x = true) ∧ encL ds = (allB ds, 0) := by
  rw [(encL_is hl).1] at h ⊢
  by_cases hb : badL ds = true
  · rw [if_pos hb] at h; cases h
  · rw [if_neg hb]
    exact ⟨badL_all (by simpa using hb), rfl⟩
theorem allB_lim {ds : List Dl} (hl : ds.length ≤ 200) : 2 ≤ (allB ds).length ∧ (allB ds).length ≤ 5602 := by
  rw [allB_len]
  have := (flatD_len ds).2
  omega
theorem allB_join (xs ys : List Dl) : allB (xs ++ ys) = be ((xs.length + ys.length : Nat) : Int) 2 ++ ((allB xs).drop 2 ++ (allB ys).drop 2) := by
  have e : ∀ ds : List Dl, (allB ds).drop 2 = flatD ds := fun ds => by
    unfold allB
    rw [List.drop_append_of_le_length (by rw [be_length]; exact Nat.le_refl _), List.drop_of_length_le (by rw [be_length]; exact Nat.le_refl _), List.nil_append]
  rw [e, e]
  unfold allB
  rw [List.length_append, flatD_append]
def JKEY (w : World) (e : Ending) (w' : World) : Prop := e = .returned (.bool true) ∧ Keeps [] w w'

set_option maxHeartbeats 25600000 in
theorem joinsGood_any (w : World) (v u : Value) (xs ys : List Dl) (cut : Int) (hx : DlsAt w v xs) (hy : DlsAt w u ys) (hl1 : ¬ (100 : Int) < (xs.length : Int)) (hl2 : ¬ (100 : Int) < (ys.length : Int)) (ha : (encL xs).2 = 0) (hb : (encL ys).2 = 0) :
    Calls Try.prog 6 #[v, u, .int .i64 cut] w fun e w' => e = .returned (.bool true) ∧ Keeps [] w w' := by
  have HX := hid hx
  have HY := hid hy
  obtain ⟨a, c, rfl⟩ := hx.shape
  obtain ⟨b, d, rfl⟩ := hy.shape
  clear hx hy
  obtain ⟨mx, ex⟩ := enc_zero (ds := xs) (by omega) ha
  obtain ⟨my, ey⟩ := enc_zero (ds := ys) (by omega) hb
  have HLX := hid (show xs.length ≤ 100 by omega)
  have HLY := hid (show ys.length ≤ 100 by omega)
  have mz : ∀ x ∈ xs ++ ys, mayL x = true := fun x h => by
    rcases List.mem_append.1 h with h | h
    · exact mx x h
    · exact my x h
  have MZ := hid mz
  have ez : encL (xs ++ ys) = (allB (xs ++ ys), 0) := by
    rw [(encL_is (ds := xs ++ ys) (by simp; omega)).1, if_neg (by rw [badL_of mz]; simp)]
  have lx := allB_lim (ds := xs) (by omega)
  have ly := allB_lim (ds := ys) (by omega)
  have lz := allB_lim (ds := xs ++ ys) (by simp; omega)
  have JN := hid (allB_join xs ys)
  have CUT := hid (fun j => dec_cut (ds := xs ++ ys) (j := j) mz (by simp; omega))
  obtain ⟨bx, hbx⟩ : ∃ l, l = allB xs := ⟨_, rfl⟩
  obtain ⟨bys, hby⟩ : ∃ l, l = allB ys := ⟨_, rfl⟩
  obtain ⟨bz, hbz⟩ : ∃ l, l = allB (xs ++ ys) := ⟨_, rfl⟩
  rw [← hbx] at ex lx JN
  rw [← hby] at ey ly JN
  rw [← hbz] at ez lz JN CUT
  obtain ⟨lx2, lx3⟩ := lx
  obtain ⟨ly2, ly3⟩ := ly
  obtain ⟨lz2, lz3⟩ := lz
  have EX := hid ex.symm
  have EY := hid ey.symm
  have EZ := hid ez
  clear ha hb mx my ex ey ez mz hbx hby hbz
  go_enter Try.func6, Try.ntmps6
  go_wp2_with fail
  refine (dAwake_any w).mono ?_
  rintro e w1 ⟨rfl, k1⟩
  have K1 := hid k1
  clear k1
  go_wp2_with (first | go_big_skip | fail)
  refine (dEncode_any w1 _ xs (HX.out.keep K1.out)).mono ?_
  rw [← EX.out]
  rintro e w2 ⟨a2, c2, rfl, r2, -, k2⟩
  simp only at r2
  have R2 := hid r2
  have K2 := hid (K1.out.trans k2)
  clear r2 k2
  go_wp2_with fail
  refine (dEncode_any w2 _ ys (HY.out.keep K2.out)).mono ?_
  rw [← EY.out]
  rintro e w3 ⟨a3, c3, rfl, r3, -, k3⟩
  simp only at r3
  have R3 := hid r3
  have R23 := hid (R2.out.keep k3 (by intro _ _ _ _ _; simp))
  have K3 := hid (K2.out.trans k3)
  clear r3 k3
  obtain ⟨ax2, sX, sX2, rX, bX⟩ := row_drop R23.out 2 lx2
  obtain ⟨ay2, sY, sY2, rY, bY⟩ := row_drop R3.out 2 ly2
  have SX := hid sX
  have SY := hid sY
  have DX := hid rX
  have DY := hid rY
  clear sX sX2 rX bX sY sY2 rY bY
  have kn : Keeps [] w3 (w3.alloc (.cells #[] 49)) := (Keeps.refl [] w3).alloc _
  have HX3 := HX.out.keep (K3.out.trans kn)
  have HY3 := HY.out.keep (K3.out.trans kn)
  obtain ⟨a4, c4, w4, hrun4, o4, k4⟩ := append_dls (own_noDl w3 w3.heap.size (Nat.le_refl _)) _ _ _ HX3 (by have := HLX.out; simp; omega) kn.size 23
  have KA4 : Keeps [] w3 w4 := kn.trans' k4 (fun i hi hm => by simp [Value.ownBlock] at hm; omega)
  have HY4 := HY.out.keep (K3.out.trans KA4)
  have o4' : OwnD w4 w3.heap.size (.slice a4 xs.length c4) xs := by simpa using o4
  have hrun4' : (Builtin.append_ #[23, 23] 23 #[.slice (some ⟨w3.heap.size, 0, none⟩) 0 0, .slice a xs.length c]).run Try.prog (w3.alloc (.cells #[] 49)) = .ok (.slice a4 xs.length c4) w4 := by simpa using hrun4
  obtain ⟨a5, c5, w5, hrun5, o5, k5⟩ := append_dls o4' _ _ _ HY4 (by have := HLX.out; have := HLY.out; omega) KA4.size 23
  have KA5 : Keeps [] w3 w5 := KA4.trans' k5 (fun i hi hm => by have := (o4'.blk i (by simpa using hm)).1; omega)
  have RUN4 := hid hrun4'
  have RUN5 := hid hrun5
  have K5 := hid (K3.out.trans KA5)
  have R25 := hid (R23.out.keep KA5 (by intro _ _ _ _ _; simp))
  have R35 := hid (R3.out.keep KA5 (by intro _ _ _ _ _; simp))
  have HE0 := dEncode_any w5 _ (xs ++ ys) (by have := o5.at; simpa using this)
  rw [EZ.out] at HE0
  have HE := hid HE0
  clear kn HX3 HY3 hrun4 o4 k4 KA4 HY4 o4' hrun4' hrun5 o5 k5 KA5 HE0
  go_wp2_with (first | go_big_skip | (refine wpList_is rfl _ _ (exec_noDl rfl) ?_) | (refine wpList_is rfl _ _ (exec_appendT 23 _ _ rfl rfl rfl RUN4.out) ?_) | (refine wpList_is rfl _ _ (exec_appendT 23 _ _ rfl rfl rfl RUN5.out) ?_) | fail)
  refine HE.out.mono ?_
  rintro e w6 ⟨a6, c6, rfl, r6, -, k6⟩
  simp only at r6
  have R6 := hid r6
  have R26 := hid (R25.out.keep k6 (by intro _ _ _ _ _; simp))
  have R36 := hid (R35.out.keep k6 (by intro _ _ _ _ _; simp))
  have K6 := hid (K5.out.trans k6)
  clear r6 k6 HE
  have hz0 : ((bz.length : Int) == 0) = false := beq_eq_false_iff_ne.2 (by omega)
  go_wp2_with (first | go_big_skip | fail)
  clear hz0
  obtain ⟨nn, hnn⟩ : ∃ n : Nat, n = xs.length + ys.length := ⟨_, rfl⟩
  rw [show (xs.length : Int) + (ys.length : Int) = (nn : Int) by omega]
  rw [← hnn] at JN
  have HN := hid (show nn ≤ 200 by have := HLX.out; have := HLY.out; omega)
  clear hnn hl1 hl2
  have hn0 : nn ≤ 200 := HN.out
  refine wp_region_any (by kernel_rfl) (wpAny_of_held (S := KpS [] w6.heap.size w6.drew) _ _ _ _ ?_)
  change wpAnyH _ _ _ _ _ _ _ _ w6.drew
  refine held_take (i := 0) (v := .int .i64 (nn : Int)) rfl (by kernel_rfl) (by kernel_rfl) (by kernel_rfl) (fun _ _ _ h => h) rfl (fun W1 hW1 => rfl) (KpS.refl _ _ _) ?_
  simp only [Act.put, List.setIfInBounds_toArray, List.set_cons_zero, List.set_cons_succ]
  refine held_take (i := 1) (v := .int .i64 ((nn : Int) / 256)) rfl (by kernel_rfl) (by kernel_rfl) (by kernel_rfl) (fun _ _ _ h => h) rfl (fun W1 hW1 => by go_simp) (KpS.refl _ _ _) ?_
  simp only [Act.put, List.setIfInBounds_toArray, List.set_cons_zero, List.set_cons_succ]
  refine held_take (i := 2) (v := .int .u8 (IntKind.u8.wrap ((nn : Int) / 256))) rfl (by kernel_rfl) (by kernel_rfl) (by kernel_rfl) (fun _ _ _ h => h) rfl (fun W1 hW1 => by go_simp) (KpS.refl _ _ _) ?_
  simp only [Act.put, List.setIfInBounds_toArray, List.set_cons_zero, List.set_cons_succ]
  refine held_take (i := 3) (v := .int .i64 (nn : Int)) rfl (by kernel_rfl) (by kernel_rfl) (by kernel_rfl) (fun _ _ _ h => h) rfl (fun W1 hW1 => rfl) (KpS.refl _ _ _) ?_
  simp only [Act.put, List.setIfInBounds_toArray, List.set_cons_zero, List.set_cons_succ]
  refine held_take (i := 4) (v := .int .u8 (IntKind.u8.wrap (nn : Int))) rfl (by kernel_rfl) (by kernel_rfl) (by kernel_rfl) (fun _ _ _ h => h) rfl (fun W1 hW1 => by go_simp) (KpS.refl _ _ _) ?_
  simp only [Act.put, List.setIfInBounds_toArray, List.set_cons_zero, List.set_cons_succ]
  refine held_take (i := 6) (v := .slice a2 bx.length c2) rfl (by kernel_rfl) (by kernel_rfl) (by kernel_rfl) (fun _ _ _ h => h) rfl (fun W1 hW1 => rfl) (KpS.refl _ _ _) ?_
  simp only [Act.put, List.setIfInBounds_toArray, List.set_cons_zero, List.set_cons_succ]
  refine held_take (i := 7) (v := .slice ax2 (bx.length - 2) (c2 - 2)) rfl (by kernel_rfl) (by kernel_rfl) (by kernel_rfl) (fun _ _ _ h => h) rfl (fun W1 hW1 => exec_sliceR _ _ _ _ _ rfl (SX.out W1)) (KpS.refl _ _ _) ?_
  simp only [Act.put, List.setIfInBounds_toArray, List.set_cons_zero, List.set_cons_succ]
  refine held_take (i := 9) (v := .slice a3 bys.length c3) rfl (by kernel_rfl) (by kernel_rfl) (by kernel_rfl) (fun _ _ _ h => h) rfl (fun W1 hW1 => rfl) (KpS.refl _ _ _) ?_
  simp only [Act.put, List.setIfInBounds_toArray, List.set_cons_zero, List.set_cons_succ]
  refine held_take (i := 10) (v := .slice ay2 (bys.length - 2) (c3 - 2)) rfl (by kernel_rfl) (by kernel_rfl) (by kernel_rfl) (fun _ _ _ h => h) rfl (fun W1 hW1 => exec_sliceR _ _ _ _ _ rfl (SY.out W1)) (KpS.refl _ _ _) ?_
  simp only [Act.put, List.setIfInBounds_toArray, List.set_cons_zero, List.set_cons_succ]

  have kp0 : KpS [] w6.heap.size w6.drew w6.drew := KpS.refl _ _ _
  have RX0 := hid (DX.out _ R26.out)
  have RY0 := hid (DY.out _ R36.out)
  have HB0 := hid (show w6.heap.size = w6.drew.heap.size from rfl)
  have HBE := hid (show ∀ z ∈ bx.drop 2 ++ bys.drop 2, 0 ≤ z ∧ z ≤ 255 from fun z hz => by
    rcases List.mem_append.1 hz with h | h
    · exact R26.out.bytes z (List.mem_of_mem_drop h)
    · exact R36.out.bytes z (List.mem_of_mem_drop h))
  have HBH := hid (show ∀ z ∈ [IntKind.u8.wrap ((nn : Int) / 256), IntKind.u8.wrap (nn : Int)] ++ (bx.drop 2 ++ bys.drop 2), 0 ≤ z ∧ z ≤ 255 from fun z hz => by
    rcases List.mem_append.1 hz with h | h
    · rw [wrap8, wrap8] at h
      simp only [List.mem_cons, List.not_mem_nil, or_false] at h
      rcases h with rfl | rfl <;> omega
    · exact HBE.out z h)
  have HBZ := hid (show bz = [IntKind.u8.wrap ((nn : Int) / 256), IntKind.u8.wrap (nn : Int)] ++ (bx.drop 2 ++ bys.drop 2) by rw [JN.out, be_two, wrap8, wrap8])
  have hk : (bz.length : Int) ≠ 0 := by omega
  have t1 : -(bz.length : Int) < cut.tmod bz.length := by
    have := Int.tmod_lt_of_pos (-cut) (show (0 : Int) < bz.length by omega)
    rw [Int.neg_tmod] at this
    omega
  have t2 : cut.tmod bz.length < bz.length := Int.tmod_lt_of_pos cut (by omega)
  obtain ⟨j, hj⟩ : ∃ j : Nat, (cut.tmod (bz.length : Int) + bz.length) % (bz.length : Int) = (j : Int) := Int.eq_ofNat_of_zero_le (Int.emod_nonneg _ hk)
  have HJL := hid (show j < bz.length by have := Int.emod_lt_of_pos (cut.tmod (bz.length : Int) + bz.length) (show (0 : Int) < bz.length by omega); omega)
  obtain ⟨a7, sT, sT2, rT, bT⟩ := row_take R6.out j (Nat.le_of_lt HJL.out)
  rw [← hj] at sT
  have SLC := hid sT
  have RT := hid rT
  have HD2 := hid (CUT.out j HJL.out)
  have DECF := hid (fun (W : World) (h : RowAt W (.slice a7 j c6) (bz.take j)) => dDecode_any W _ _ h (by simp; omega))
  clear hj sT sT2 rT bT
  refine wpAnyH_all (rs := [5, 8]) (by kernel_rfl) (by simp) fun jj hj => ?_
  simp only [List.mem_cons, List.not_mem_nil, or_false] at hj
  rcases hj with rfl | rfl
  · skip
    have kv1 : Keeps [] w6.drew (w6.drew.alloc (.cells #[.int .u8 (IntKind.u8.wrap ((nn : Int) / 256)), .int .u8 (IntKind.u8.wrap (nn : Int))] 5)) := (Keeps.refl [] w6.drew).alloc _
    have kp1 : KpS [] w6.heap.size w6.drew (w6.drew.alloc (.cells #[.int .u8 (IntKind.u8.wrap ((nn : Int) / 256)), .int .u8 (IntKind.u8.wrap (nn : Int))] 5)) := kp0.keeps kv1 (by have := kp0.size; exact this) (fun i hi _ => hi)
    have P1 := hid (own_two w6.drew w6.drew.heap.size (Nat.le_refl _) (IntKind.u8.wrap ((nn : Int) / 256)) (IntKind.u8.wrap (nn : Int)))
    refine at_opD (i := 5) rfl rfl (wp_value (exec_twoB _ _ _ _ rfl rfl rfl) ⟨kp1, ?_⟩)
    simp only [Act.put, List.setIfInBounds_toArray, List.set_cons_zero, List.set_cons_succ]
    change wpAnyH _ _ _ _ _ _ _ _ (w6.drew.alloc (.cells #[.int .u8 (IntKind.u8.wrap ((nn : Int) / 256)), .int .u8 (IntKind.u8.wrap (nn : Int))] 5))
    have hg1 : w6.drew.heap.size < (w6.drew.alloc (.cells #[.int .u8 (IntKind.u8.wrap ((nn : Int) / 256)), .int .u8 (IntKind.u8.wrap (nn : Int))] 5)).heap.size := by simp
    have hq1 : w6.heap.size ≤ w6.drew.heap.size := kp0.size
    generalize hG1 : w6.drew.heap.size = g5 at P1 hg1 hq1 ⊢
    generalize w6.drew.alloc (.cells #[.int .u8 (IntKind.u8.wrap ((nn : Int) / 256)), .int .u8 (IntKind.u8.wrap (nn : Int))] 5) = v1 at kp1 P1 hg1 ⊢
    clear kv1
    refine held_do (i := 8) (by kernel_rfl) rfl rfl (wp_enter (f := 28) (args := #[.slice ax2 (bx.length - 2) (c2 - 2)]) (by go_simp) (copy_any v1 _ (bx.drop 2) (RX0.out.keep ((Keeps.refl [] w6).drew.trans (kp1.toKeeps)) (by intro _ _ _ _ _; simp)) (by simp; omega)) ?_)
    rintro e v2 ⟨a8, c8, rfl, o8, k8⟩
    have O2 := hid o8
    have L2 := hid o8.lt
    have Z2 := hid k8.size
    have kp2 : KpS [] w6.heap.size w6.drew v2 := kp1.keeps k8 (by have := kp1.size; exact this) (fun i hi _ => hi)
    have kk2 := hid k8
    clear o8 k8
    refine ⟨_, rfl, kp2, ?_⟩
    simp only [Act.put, List.setIfInBounds_toArray, List.set_cons_zero, List.set_cons_succ]
    have PB := hid (ownsRow_keepP P1.out kk2.out (by simp))
    obtain ⟨aa3, ca3, v3, hrun3, oo3, ka3⟩ := append_b8 O2.out _ _ _ (RY0.out.keep ((Keeps.refl [] w6).drew.trans (kp2.toKeeps)) (by intro _ _ _ _ _; simp)) (by simp; omega) Z2.out 22
    have kp3 : KpS [] w6.heap.size w6.drew v3 := kp2.keeps ka3 (by have := kp2.size; exact this) (fun i hi hlt => by have h1 := O2.out.lt i (by simpa using hi); have h2 := HB0.out; omega)
    have O3 := hid oo3
    have Z3 := hid ka3.size
    have RUN3 := hid hrun3
    have PC := hid (ownsRow_keepP PB.out ka3 (fun b hb hm => by have h1 := O2.out.lt b (by simpa using hm); simp [Value.ownBlock] at hb; subst hb; omega))
    refine held_do (i := 11) (by kernel_rfl) rfl rfl (wp_value (exec_appendT 22 _ _ rfl rfl rfl RUN3.out) ⟨kp3, ?_⟩)
    simp only [Act.put, List.setIfInBounds_toArray, List.set_cons_zero, List.set_cons_succ]
    obtain ⟨aa4, ca4, v4, hrun4, oo4, ka4⟩ := append_b8 PC.out _ _ _ (row_of_own O3.out HBE.out) (by simp; omega) (by have h1 := Z2.out; have h2 := Z3.out; omega) 22
    have kp4 : KpS [] w6.heap.size w6.drew v4 := kp3.keeps ka4 (by have := kp3.size; exact this) (fun i hi hlt => by have h1 := PC.out.lt i (by simpa using hi); have h2 := HB0.out; omega)
    have O4 := hid oo4
    have RUN4 := hid hrun4
    refine held_do (i := 12) (by kernel_rfl) rfl rfl (wp_value (exec_appendT 22 _ _ rfl rfl rfl RUN4.out) ⟨kp4, ?_⟩)
    simp only [Act.put, List.setIfInBounds_toArray, List.set_cons_zero, List.set_cons_succ]
    have KF := hid (K6.out.trans ((Keeps.refl [] w6).drew.trans (kp4.toKeeps)))
    have RW := hid (row_of_own O4.out HBH.out)
    have RZ := hid (R6.out.keep ((Keeps.refl [] w6).drew.trans (kp4.toKeeps)) (by intro _ _ _ _ _; simp))
    refine held_take (i := 13) (v := _) rfl (by kernel_rfl) (by kernel_rfl) (by kernel_rfl) (fun _ _ _ h => h) rfl (fun W1 hW1 => rfl) (kp4) ?_
    simp only [Act.put, List.setIfInBounds_toArray, List.set_cons_zero, List.set_cons_succ]
    refine wpAnyH_done (by kernel_rfl) ?_ _
    rw [← HBZ.out] at RW ⊢
    go_wp2_with (first | (refine wpList_is rfl _ _ (exec_sliceR 22 _ _ _ _ rfl (SLC.out _)) ?_) | fail)
    refine (DECF.out _ (RT.out _ RZ.out)).mono ?_
    rintro e wA ⟨vA, rfl, dA, kA⟩
    rw [HD2.out]
    obtain ⟨aA, cA, rfl⟩ := dA.shape
    have KG := hid (KF.out.trans kA)
    have RWA := hid (RW.out.keep kA (by intro _ _ _ _ _; simp))
    have RZA := hid (RZ.out.keep kA (by intro _ _ _ _ _; simp))
    clear dA kA
    generalize (decL (bz.take j)).1.length = nA
    go_wp2_with (first | go_big_skip | fail)
    refine (same_any wA _ _ bz bz RZA.out RWA.out (by omega) (by omega)).mono ?_
    rintro e wB ⟨rfl, n, hwB⟩
    have kB : Keeps [] wA wB := by rw [hwB]; exact (Keeps.refl _ _).drewN n
    rw [decide_eq_true (rfl : bz = bz)]
    have KH := hid (KG.out.trans kB)
    clear hwB kB
    go_wp2_with (first | go_big_skip | fail)
    go_ret
    exact ⟨rfl, KH.out⟩
  · skip
    refine at_opD (i := 8) rfl rfl (wp_enter (f := 28) (args := #[.slice ax2 (bx.length - 2) (c2 - 2)]) (by go_simp) (copy_any w6.drew _ (bx.drop 2) (RX0.out.keep ((Keeps.refl [] w6).drew.trans (kp0.toKeeps)) (by intro _ _ _ _ _; simp)) (by simp; omega)) ?_)
    rintro e v5 ⟨a8, c8, rfl, o8, k8⟩
    have O5 := hid o8
    have L5 := hid o8.lt
    have Z5 := hid k8.size
    have kp5 : KpS [] w6.heap.size w6.drew v5 := kp0.keeps k8 (by have := kp0.size; exact this) (fun i hi _ => hi)
    have kk5 := hid k8
    clear o8 k8
    refine ⟨_, rfl, kp5, ?_⟩
    simp only [Act.put, List.setIfInBounds_toArray, List.set_cons_zero, List.set_cons_succ]
    refine wpAnyH_all (rs := [5, 11]) (by kernel_rfl) (by simp) fun jj hj => ?_
    simp only [List.mem_cons, List.not_mem_nil, or_false] at hj
    rcases hj with rfl | rfl
    · skip
      have kv6 : Keeps [] v5 (v5.alloc (.cells #[.int .u8 (IntKind.u8.wrap ((nn : Int) / 256)), .int .u8 (IntKind.u8.wrap (nn : Int))] 5)) := (Keeps.refl [] v5).alloc _
      have kp6 : KpS [] w6.heap.size w6.drew (v5.alloc (.cells #[.int .u8 (IntKind.u8.wrap ((nn : Int) / 256)), .int .u8 (IntKind.u8.wrap (nn : Int))] 5)) := kp5.keeps kv6 (by have := kp5.size; exact this) (fun i hi _ => hi)
      have P6 := hid (own_two v5 v5.heap.size (Nat.le_refl _) (IntKind.u8.wrap ((nn : Int) / 256)) (IntKind.u8.wrap (nn : Int)))
      have O5a := hid (ownsRow_keepP O5.out kv6 (by simp))
      refine at_opD (i := 5) rfl rfl (wp_value (exec_twoB _ _ _ _ rfl rfl rfl) ⟨kp6, ?_⟩)
      simp only [Act.put, List.setIfInBounds_toArray, List.set_cons_zero, List.set_cons_succ]
      change wpAnyH _ _ _ _ _ _ _ _ (v5.alloc (.cells #[.int .u8 (IntKind.u8.wrap ((nn : Int) / 256)), .int .u8 (IntKind.u8.wrap (nn : Int))] 5))
      have hg6 : v5.heap.size < (v5.alloc (.cells #[.int .u8 (IntKind.u8.wrap ((nn : Int) / 256)), .int .u8 (IntKind.u8.wrap (nn : Int))] 5)).heap.size := by simp
      have hq6 : w6.heap.size ≤ v5.heap.size := kp5.size
      generalize hG6 : v5.heap.size = g5 at P6 hg6 hq6 ⊢
      generalize v5.alloc (.cells #[.int .u8 (IntKind.u8.wrap ((nn : Int) / 256)), .int .u8 (IntKind.u8.wrap (nn : Int))] 5) = v6 at kp6 P6 hg6 O5a ⊢
      clear kv6
      obtain ⟨aa7, ca7, v7, hrun7, oo7, ka7⟩ := append_b8 O5a.out _ _ _ (RY0.out.keep ((Keeps.refl [] w6).drew.trans (kp6.toKeeps)) (by intro _ _ _ _ _; simp)) (by simp; omega) (by have h1 := Z5.out; omega) 22
      have kp7 : KpS [] w6.heap.size w6.drew v7 := kp6.keeps ka7 (by have := kp6.size; exact this) (fun i hi hlt => by have h1 := O5a.out.lt i (by simpa using hi); have h2 := HB0.out; omega)
      have O7 := hid oo7
      have Z7 := hid ka7.size
      have RUN7 := hid hrun7
      have PC := hid (ownsRow_keepP P6.out ka7 (fun b hb hm => by have h1 := L5.out b (by simpa using hm); simp [Value.ownBlock] at hb; subst hb; omega))
      refine held_do (i := 11) (by kernel_rfl) rfl rfl (wp_value (exec_appendT 22 _ _ rfl rfl rfl RUN7.out) ⟨kp7, ?_⟩)
      simp only [Act.put, List.setIfInBounds_toArray, List.set_cons_zero, List.set_cons_succ]
      obtain ⟨aa8, ca8, v8, hrun8, oo8, ka8⟩ := append_b8 PC.out _ _ _ (row_of_own O7.out HBE.out) (by simp; omega) (by have h2 := Z7.out; omega) 22
      have kp8 : KpS [] w6.heap.size w6.drew v8 := kp7.keeps ka8 (by have := kp7.size; exact this) (fun i hi hlt => by have h1 := PC.out.lt i (by simpa using hi); have h2 := HB0.out; omega)
      have O8 := hid oo8
      have RUN8 := hid hrun8
      refine held_do (i := 12) (by kernel_rfl) rfl rfl (wp_value (exec_appendT 22 _ _ rfl rfl rfl RUN8.out) ⟨kp8, ?_⟩)
      simp only [Act.put, List.setIfInBounds_toArray, List.set_cons_zero, List.set_cons_succ]
      have KF := hid (K6.out.trans ((Keeps.refl [] w6).drew.trans (kp8.toKeeps)))
      have RW := hid (row_of_own O8.out HBH.out)
      have RZ := hid (R6.out.keep ((Keeps.refl [] w6).drew.trans (kp8.toKeeps)) (by intro _ _ _ _ _; simp))
      refine held_take (i := 13) (v := _) rfl (by kernel_rfl) (by kernel_rfl) (by kernel_rfl) (fun _ _ _ h => h) rfl (fun W1 hW1 => rfl) (kp8) ?_
      simp only [Act.put, List.setIfInBounds_toArray, List.set_cons_zero, List.set_cons_succ]
      refine wpAnyH_done (by kernel_rfl) ?_ _
      rw [← HBZ.out] at RW ⊢
      go_wp2_with (first | (refine wpList_is rfl _ _ (exec_sliceR 22 _ _ _ _ rfl (SLC.out _)) ?_) | fail)
      refine (DECF.out _ (RT.out _ RZ.out)).mono ?_
      rintro e wA ⟨vA, rfl, dA, kA⟩
      rw [HD2.out]
      obtain ⟨aA, cA, rfl⟩ := dA.shape
      have KG := hid (KF.out.trans kA)
      have RWA := hid (RW.out.keep kA (by intro _ _ _ _ _; simp))
      have RZA := hid (RZ.out.keep kA (by intro _ _ _ _ _; simp))
      clear dA kA
      generalize (decL (bz.take j)).1.length = nA
      go_wp2_with (first | go_big_skip | fail)
      refine (same_any wA _ _ bz bz RZA.out RWA.out (by omega) (by omega)).mono ?_
      rintro e wB ⟨rfl, n, hwB⟩
      have kB : Keeps [] wA wB := by rw [hwB]; exact (Keeps.refl _ _).drewN n
      rw [decide_eq_true (rfl : bz = bz)]
      have KH := hid (KG.out.trans kB)
      clear hwB kB
      go_wp2_with (first | go_big_skip | fail)
      go_ret
      exact ⟨rfl, KH.out⟩
    · skip
      obtain ⟨aa9, ca9, v9, hrun9, oo9, ka9⟩ := append_b8 O5.out _ _ _ (RY0.out.keep ((Keeps.refl [] w6).drew.trans (kp5.toKeeps)) (by intro _ _ _ _ _; simp)) (by simp; omega) Z5.out 22
      have kp9 : KpS [] w6.heap.size w6.drew v9 := kp5.keeps ka9 (by have := kp5.size; exact this) (fun i hi hlt => by have h1 := O5.out.lt i (by simpa using hi); have h2 := HB0.out; omega)
      have O9 := hid oo9
      have Z9 := hid ka9.size
      have RUN9 := hid hrun9
      refine at_opD (i := 11) rfl rfl (wp_value (exec_appendT 22 _ _ rfl rfl rfl RUN9.out) ⟨kp9, ?_⟩)
      simp only [Act.put, List.setIfInBounds_toArray, List.set_cons_zero, List.set_cons_succ]
      have kv10 : Keeps [] v9 (v9.alloc (.cells #[.int .u8 (IntKind.u8.wrap ((nn : Int) / 256)), .int .u8 (IntKind.u8.wrap (nn : Int))] 5)) := (Keeps.refl [] v9).alloc _
      have kp10 : KpS [] w6.heap.size w6.drew (v9.alloc (.cells #[.int .u8 (IntKind.u8.wrap ((nn : Int) / 256)), .int .u8 (IntKind.u8.wrap (nn : Int))] 5)) := kp9.keeps kv10 (by have := kp9.size; exact this) (fun i hi _ => hi)
      have P10 := hid (own_two v9 v9.heap.size (Nat.le_refl _) (IntKind.u8.wrap ((nn : Int) / 256)) (IntKind.u8.wrap (nn : Int)))
      have O9a := hid (ownsRow_keepP O9.out kv10 (by simp))
      refine held_do (i := 5) (by kernel_rfl) rfl rfl (wp_value (exec_twoB _ _ _ _ rfl rfl rfl) ⟨kp10, ?_⟩)
      simp only [Act.put, List.setIfInBounds_toArray, List.set_cons_zero, List.set_cons_succ]
      change wpAnyH _ _ _ _ _ _ _ _ (v9.alloc (.cells #[.int .u8 (IntKind.u8.wrap ((nn : Int) / 256)), .int .u8 (IntKind.u8.wrap (nn : Int))] 5))
      have hg10 : v9.heap.size < (v9.alloc (.cells #[.int .u8 (IntKind.u8.wrap ((nn : Int) / 256)), .int .u8 (IntKind.u8.wrap (nn : Int))] 5)).heap.size := by simp
      have hq10 : w6.heap.size ≤ v9.heap.size := kp9.size
      generalize hG10 : v9.heap.size = g5 at P10 hg10 hq10 ⊢
      generalize v9.alloc (.cells #[.int .u8 (IntKind.u8.wrap ((nn : Int) / 256)), .int .u8 (IntKind.u8.wrap (nn : Int))] 5) = v10 at kp10 P10 hg10 O9a ⊢
      clear kv10
      obtain ⟨aa11, ca11, v11, hrun11, oo11, ka11⟩ := append_b8 P10.out _ _ _ (row_of_own O9a.out HBE.out) (by simp; omega) (by omega) 22
      have kp11 : KpS [] w6.heap.size w6.drew v11 := kp10.keeps ka11 (by have := kp10.size; exact this) (fun i hi hlt => by have h1 := P10.out.lt i (by simpa using hi); have h2 := HB0.out; omega)
      have O11 := hid oo11
      have RUN11 := hid hrun11
      refine held_do (i := 12) (by kernel_rfl) rfl rfl (wp_value (exec_appendT 22 _ _ rfl rfl rfl RUN11.out) ⟨kp11, ?_⟩)
      simp only [Act.put, List.setIfInBounds_toArray, List.set_cons_zero, List.set_cons_succ]
      have KF := hid (K6.out.trans ((Keeps.refl [] w6).drew.trans (kp11.toKeeps)))
      have RW := hid (row_of_own O11.out HBH.out)
      have RZ := hid (R6.out.keep ((Keeps.refl [] w6).drew.trans (kp11.toKeeps)) (by intro _ _ _ _ _; simp))
      refine held_take (i := 13) (v := _) rfl (by kernel_rfl) (by kernel_rfl) (by kernel_rfl) (fun _ _ _ h => h) rfl (fun W1 hW1 => rfl) (kp11) ?_
      simp only [Act.put, List.setIfInBounds_toArray, List.set_cons_zero, List.set_cons_succ]
      refine wpAnyH_done (by kernel_rfl) ?_ _
      rw [← HBZ.out] at RW ⊢
      go_wp2_with (first | (refine wpList_is rfl _ _ (exec_sliceR 22 _ _ _ _ rfl (SLC.out _)) ?_) | fail)
      refine (DECF.out _ (RT.out _ RZ.out)).mono ?_
      rintro e wA ⟨vA, rfl, dA, kA⟩
      rw [HD2.out]
      obtain ⟨aA, cA, rfl⟩ := dA.shape
      have KG := hid (KF.out.trans kA)
      have RWA := hid (RW.out.keep kA (by intro _ _ _ _ _; simp))
      have RZA := hid (RZ.out.keep kA (by intro _ _ _ _ _; simp))
      clear dA kA
      generalize (decL (bz.take j)).1.length = nA
      go_wp2_with (first | go_big_skip | fail)
      refine (same_any wA _ _ bz bz RZA.out RWA.out (by omega) (by omega)).mono ?_
      rintro e wB ⟨rfl, n, hwB⟩
      have kB : Keeps [] wA wB := by rw [hwB]; exact (Keeps.refl _ _).drewN n
      rw [decide_eq_true (rfl : bz = bz)]
      have KH := hid (KG.out.trans kB)
      clear hwB kB
      go_wp2_with (first | go_big_skip | fail)
      go_ret
      exact ⟨rfl, KH.out⟩

end Go.Proofs.Ytamcllcjondcpaa
