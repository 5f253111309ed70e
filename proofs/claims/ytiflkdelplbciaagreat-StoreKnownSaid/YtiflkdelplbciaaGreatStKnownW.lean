/- store: the walk of the law StoreKnown. -/
import Derived.Test.YtiflkdelplbciaaGreatStZj
namespace Go.Proofs.YtiflkdelplbciaaGreat
open Go.RowKit Go.Shelf
set_option maxRecDepth 100000
set_option linter.unusedSimpArgs false

theorem blank_rm : rmE (blankS 25) = 4 := by
  unfold rmE
  rw [if_neg (by decide), if_neg]
  rintro (h | h)
  · have := congrArg (fun r : Row => r.1.head?) h
    simp [mrow, blankS, zrow] at this
  · have := congrArg (fun r : Row => r.1.head?) h
    simp [mrow, blankS, zrow] at this
def knId3 : Idn := ⟨1, 0, 5, 3⟩
def knId5 : Idn := ⟨5, 0, 5, 2⟩
theorem kn3_may : mayI knId3 = true := by decide
theorem kn5_may : mayI knId5 = false := by decide
theorem latest1_any (w : World) (t : Nat) (cl : Int) (x : Idn) (hxc : x.c = cl)
    (HL : ∀ W, Keeps [] w W → Calls Tryz.prog 17 #[.pointer (some ⟨t, 0, none⟩)] W fun e W' => ∃ g cp, e = .returned (.slice (some ⟨g, 0, none⟩) 1 cp) ∧ (∀ j v, (idA x)[j]? = some v → W'.cell? ⟨g, j, none⟩ = some v) ∧ Keeps [] W W') :
    Calls Tryz.prog 13 #[.pointer (some ⟨t, 0, none⟩), .int .i64 cl] w fun e w' => e = .returned (.tuple #[idV x, .bool true]) ∧ Keeps [] w w' :=
  callsIn_wide.1 (latest1_in 4 (by omega) w t cl x hxc HL)

set_option maxHeartbeats 12800000 in
theorem qKnown_any (w : World) : Calls Tryz.prog 3 #[] w fun e w' => e = .returned (.bool true) ∧ Keeps [] w w' := by
  go_enter Tryz.func3, Tryz.ntmps3
  go_wp2_with fail
  refine (awake6_any w).mono ?_
  rintro e w0 ⟨rfl, k0⟩
  have K0 := hid k0
  clear k0
  go_wp2_with fail
  refine (newAt_any 25 (by omega) (by omega) w0).mono ?_
  rintro e w1 ⟨p, F1, rfl, d1, l1, k1⟩
  have D1 := hid d1
  have L1 := hid l1
  have K1 := hid k1
  clear d1 l1 k1
  have OB := oOpen_bad w1 p (blankS 25) F1 0 D1.out (by decide) (by rw [blank_rm]; decide)
  rw [blank_rm] at OB
  have OBH := hid OB
  clear OB
  go_wp2_with fail
  refine OBH.out.mono ?_
  rintro e wo ⟨rfl, ko⟩
  have DO := hid (D1.out.keep ko (by simp))
  have KO := hid (K1.out.trans ko)
  clear ko OBH
  have h25 : (blankS 25).cnt = 25 := rfl
  have ha0 : Alive (blankS 25) := blank_alive 25
  have fo := format_any wo p (blankS 25) F1 0 DO.out (by omega) ha0 (by omega)
  have fa := fmtS_alive ha0 (by omega)
  have fc := fmtS_cnt (blankS 25)
  have e3 : ((blankS 25).cnt - 1) / 8 = 3 := rfl
  rw [e3] at fo
  rw [h25] at fc
  have FA := hid (And.intro fa.1 fc)
  generalize fmtS (blankS 25) = s2 at fo FA
  have FO := hid fo
  clear fo fa fc h25 ha0 e3
  go_wp2_with fail
  refine FO.out.mono ?_
  rintro e w2 ⟨t, q, g, m, F2, rfl, ns, ht, hm, k2, f2⟩
  have hrep := usedN_rep 3
  have S2 := hid (newSt_at ns ht hm hrep)
  have K2 : Hid (Keeps [] w0 w2) := hid (KO.out.trans' k2 (fun i hi hmm => by have := L1.out i hmm; omega))
  have hl3 : (List.replicate 3 hd0).length = 3 := rfl
  have F2n : Hid (∀ b ∈ F2, w0.heap.size ≤ b) := hid (fun b hb => by
    rcases f2 b hb with h | h
    · exact L1.out b h
    · have := KO.out.size; omega)
  have N2 : Hid (w0.heap.size ≤ g ∧ w0.heap.size ≤ m) := hid (by
    have hz := KO.out.size
    obtain ⟨_, _, _, n1, n2, n3, n4, _⟩ := ns
    omega)
  clear ns ht hm k2 f2
  generalize List.replicate 3 hd0 = hs at S2 hrep hl3
  go_wp2_with fail
  refine (qid_any w2 1 0 5 2).mono ?_
  rintro e w3 ⟨rfl, k3⟩
  have S3 := hid (S2.out.keep k3)
  have K3 := hid (K2.out.trans k3)
  clear k3
  go_wp2_with fail
  have kA : Keeps [] w3 (w3.alloc (.cells #[.int .u8 9] 5)) := (Keeps.refl [] w3).alloc _
  have S4 := hid (S3.out.keep kA)
  have K4 := hid (K3.out.trans kA)
  have R4 := hid (row_one9 w3 9 (by omega))
  have O4 : Hid (Off F2 (.slice (some ⟨w3.heap.size, 0, none⟩) 1 1) [9]) := hid (fun ad n c e _ hmm => by
    injection e with e _ _
    injection e with e
    subst e
    obtain ⟨mm, dm⟩ := S3.out.sl.dk.dm
    have := dm.lt _ hmm
    simp at this)
  clear kA S2 S3
  generalize w3.alloc (.cells #[.int .u8 9] 5) = w4 at S4 K4 R4 ⊢
  generalize w3.heap.size = b4 at R4 O4 ⊢
  obtain ⟨i, hi, hu, hput⟩ := oPut_new w4 t q p g m hs s2 F2 (0 + 3000) false _ S4.out (by omega) aId aId_may rfl (by rw [hrep, hl3]; omega) _ [9] R4.out O4.out (by simp)
  have hpa := putS_alive FA.out.1 hs i hi hu (by rw [hl3, FA.out.2]; decide) (keyI aId) [9] ⟨by rw [keyI_len]; omega, by decide, by simp, fun h => by cases h⟩ (by simp)
  have PU := hid hput
  clear hput
  refine PU.out.mono ?_
  rintro e w5 ⟨F5, k5, f5, ⟨rfl, hd5, S5h⟩ | ⟨_, hd5, _⟩⟩
  rotate_left
  · rw [hpa.1.1] at hd5; cases hd5
  have hus := usedN_set hs i hi ⟨true, ([9] : List Int).length, keyI aId⟩ hu rfl
  rw [hrep] at hus
  have hgs : ∀ h : i < (hs.set i ⟨true, ([9] : List Int).length, keyI aId⟩).length, (hs.set i ⟨true, ([9] : List Int).length, keyI aId⟩)[i]'h = ⟨true, ([9] : List Int).length, keyI aId⟩ := fun h => List.getElem_set_self h
  have hl5 : (hs.set i ⟨true, ([9] : List Int).length, keyI aId⟩).length = 3 := by rw [List.length_set]; exact hl3
  have hgb := hpa.2
  have K5 : Hid (Keeps [] w0 w5) := hid (K4.out.trans' k5 (fun j hj hmm => by
    have := N2.out
    rcases List.mem_cons.1 hmm with h | hmm
    · omega
    · rcases List.mem_cons.1 hmm with h | hmm
      · omega
      · have := F2n.out j hmm; omega))
  generalize putS hs 1 s2 i (keyI aId) [9] = s5 at S5h hd5 hgb
  have hi5 : i < (hs.set i ⟨true, ([9] : List Int).length, keyI aId⟩).length := by rw [hl5]; omega
  generalize hs.set i ⟨true, ([9] : List Int).length, keyI aId⟩ = hs5 at S5h hus hgs hl5 hi5
  have S5 := hid S5h
  have HD5 := hid hd5
  have HI5 := hid hi5
  have HGB : Hid (getB s5 (1 + i * 8) (hs5[i]'hi5).held = [9]) := hid (by rw [hgs hi5]; exact hgb)
  have HUS := hid hus
  clear S5h hd5 hgs hgb hus k5 f5 hpa PU S4 K4 hu hl5
  -- what is there is put again
  go_wp2_with fail
  refine (qid_any w5 1 0 5 2).mono ?_
  rintro e w6 ⟨rfl, k6⟩
  have ka : Keeps [] w6 (w6.alloc (.cells #[.int .u8 9] 5)) := (Keeps.refl [] w6).alloc _
  have S6 := hid (S5.out.keep (k6.trans ka))
  have K6 := hid (K5.out.trans (k6.trans ka))
  have R6 := hid (row_one9 w6 9 (by omega))
  clear k6 ka
  go_wp2_with fail
  have pt := oPut_there _ t q p g m hs5 s5 F5 _ false _ S6.out aId aId_may i (by simp [setG]) HD5.out HI5.out [9] HGB.out (by decide) _ [9] R6.out (by decide)
  rw [if_pos rfl] at pt
  refine pt.mono ?_
  rintro e w7 ⟨rfl, k7⟩
  have S7 := hid (S6.out.keep k7)
  have K7 := hid (K6.out.trans k7)
  clear k7 pt S6 R6
  -- other bytes
  go_wp2_with fail
  refine (qid_any w7 1 0 5 2).mono ?_
  rintro e w8 ⟨rfl, k8⟩
  have ka : Keeps [] w8 (w8.alloc (.cells #[.int .u8 8] 5)) := (Keeps.refl [] w8).alloc _
  have S8 := hid (S7.out.keep (k8.trans ka))
  have K8 := hid (K7.out.trans (k8.trans ka))
  have R8 := hid (row_one9 w8 8 (by omega))
  clear k8 ka
  go_wp2_with fail
  have pt := oPut_there _ t q p g m hs5 s5 F5 _ false _ S8.out aId aId_may i (by simp [setG]) HD5.out HI5.out [9] HGB.out (by decide) _ [8] R8.out (by decide)
  rw [if_neg (by decide)] at pt
  refine pt.mono ?_
  rintro e w9 ⟨rfl, k9⟩
  have S9 := hid (S8.out.keep k9)
  have K9 := hid (K8.out.trans k9)
  clear k9 pt S8 R8 S7
  -- an id that may not be
  go_wp2_with fail
  refine (qid_any w9 5 0 5 2).mono ?_
  rintro e wa ⟨rfl, ka⟩
  have SA := hid (S9.out.keep ka)
  have KA := hid (K9.out.trans ka)
  clear ka S9
  go_wp2_with fail
  refine (oPut_arg wa t q p m false SA.out.blk knId5 kn5_may (.slice none 0 0)).mono ?_
  rintro e wb ⟨rfl, kb⟩
  have SB := hid (SA.out.keep kb)
  have KB := hid (KA.out.trans kb)
  clear kb SA
  -- one that is not there
  go_wp2_with fail
  refine (qid_any wb 1 0 5 3).mono ?_
  rintro e wc ⟨rfl, kc⟩
  have SC := hid (SB.out.keep kc)
  have KC := hid (KB.out.trans kc)
  clear kc SB
  go_wp2_with fail
  refine (oGet_none wc t q p g m hs5 s5 F5 _ false _ SC.out knId3 kn3_may (by simp [setG, knId3, aId])).mono ?_
  rintro e wd ⟨rfl, kd⟩
  have SD := hid (SC.out.keep kd)
  have KD := hid (KC.out.trans kd)
  clear kd SC
  go_wp2_with fail
  refine (qid_any wd 1 0 5 3).mono ?_
  rintro e we ⟨rfl, ke⟩
  have SE := hid (SD.out.keep ke)
  have KE := hid (KD.out.trans ke)
  clear ke SD
  go_wp2_with fail
  refine (oDelete_none we t q p g m hs5 s5 F5 _ false _ SE.out knId3 kn3_may (by simp [setG, knId3, aId])).mono ?_
  rintro e wf ⟨rfl, kf⟩
  have SF := hid (SE.out.keep kf)
  have KF := hid (KE.out.trans kf)
  clear kf SE
  -- the last
  go_wp2_with fail
  have HLs : ∀ W, Keeps [] wf W → Calls Tryz.prog 17 #[.pointer (some ⟨t, 0, none⟩)] W fun e W' => ∃ g cp, e = .returned (.slice (some ⟨g, 0, none⟩) 1 cp) ∧ (∀ j v, (idA aId)[j]? = some v → W'.cell? ⟨g, j, none⟩ = some v) ∧ Keeps [] W W' := fun W kW => by
    have SW := SF.out.keep kW
    obtain ⟨f, mf, hf⟩ := SW.mp
    rw [HUS.out] at mf
    refine (list1_any W t p q m false SW.blk _ _ f mf (by omega)).mono ?_
    rintro e w8 ⟨vl, xs, rfl, hcx, hlx, hrx, k8⟩
    obtain ⟨x0, rfl⟩ : ∃ x0, xs = [x0] := by
      match xs, hlx with
      | [x0], _ => exact ⟨x0, rfl⟩
    have hx0 : x0 = aId := by
      have hin0 := hcx.2.1 x0 (by simp)
      have hne := (hcx.2.2 x0 hin0).1 (by simp)
      rcases hf x0 hin0 with ⟨h, h2⟩ | ⟨j, b0, cap, cs, h, _⟩
      · exact absurd h2 hne
      · by_cases e : x0 = aId
        · exact e
        · simp [setG, e] at h
    subst hx0
    obtain ⟨gl, cl, cur, rfl, -, hgl, -, -, -, htk⟩ := hrx.2.resolve_left (fun h => by simp at h)
    refine ⟨gl, cl, rfl, fun j v hv => ?_, k8⟩
    have hj : j < 4 := by
      rcases Nat.lt_or_ge j 4 with hj | hj
      · exact hj
      rw [Array.getElem?_eq_none (by simp [idA]; omega)] at hv
      cases hv
    have ht : (cur.toList.take 4)[j]? = some v := by
      rw [show [aId].length * 4 = 4 from rfl] at htk
      rw [htk]
      rw [← Array.getElem?_toList] at hv
      simpa [idsC, idA, Idn.cells] using hv
    rw [List.getElem?_take_of_lt hj] at ht
    rw [cell_of_row _ _ j _ _ (0, 0) hgl]
    simpa using ht
  refine (latest1_any wf t 1 aId rfl HLs).mono ?_
  rintro e wg ⟨rfl, kg⟩
  have SG := hid (SF.out.keep kg)
  have KG := hid (KF.out.trans kg)
  clear kg SF HLs
  have kh : Keeps [] wg (wg.alloc (.cells (idA aId) 34)) := (Keeps.refl [] wg).alloc _
  have SH := hid (SG.out.keep kh)
  have KH := hid (KG.out.trans kh)
  have BH := hid (heap_alloc_new wg (.cells (idA aId) 34))
  clear kh SG
  go_wp2_with (first | (refine wpList_allocId rfl rfl ?_) | (refine wpList_storeIdNew rfl _ _ rfl wg _ aId rfl _ rfl rfl rfl ?_) | fail)
  generalize wg.alloc (.cells (idA aId) 34) = wh at SH KH BH ⊢
  have HB := hid (lt_of_block BH.out)
  refine wp_region_any (by kernel_rfl) (wpAny_of_held (S := KpS [] wh.heap.size wh.drew) _ _ _ _ ?_)
  change wpAnyH _ _ _ _ _ _ _ _ wh.drew
  have kp : KpS [] wh.heap.size wh.drew wh.drew := KpS.refl _ _ _
  have hld : ∀ W1, KpS [] wh.heap.size wh.drew W1 → (Instr.loadAt 34 (.pointer (some ⟨wg.heap.size, 0, none⟩))).run Tryz.prog W1 = .ok (idV aId) W1 := fun W1 h1 =>
    loadId_run ((h1.block _ HB.out (by simp)).trans BH.out)
  refine held_take (i := 0) (v := .int .i64 4) rfl (by kernel_rfl) (by kernel_rfl) (by kernel_rfl) (fun _ _ _ h => h) rfl (fun W1 hW1 => rfl) (KpS.refl _ _ _) ?_
  simp only [Act.put, List.setIfInBounds_toArray, List.set_cons_zero, List.set_cons_succ]
  refine held_take (i := 1) (v := .bool true) rfl (by kernel_rfl) (by kernel_rfl) (by kernel_rfl) (fun _ _ _ h => h) rfl (fun W1 hW1 => by go_simp) (KpS.refl _ _ _) ?_
  simp only [Act.put, List.setIfInBounds_toArray, List.set_cons_zero, List.set_cons_succ]
  refine held_take (i := 2) (v := .bool true) rfl (by kernel_rfl) (by kernel_rfl) (by kernel_rfl) (fun _ _ _ h => h) rfl (fun W1 hW1 => rfl) (KpS.refl _ _ _) ?_
  simp only [Act.put, List.setIfInBounds_toArray, List.set_cons_zero, List.set_cons_succ]
  refine held_takeW (i := 3) (v := .int .i64 0) rfl (by kernel_rfl) (by kernel_rfl) (by kernel_rfl) (fun _ _ _ h => h) rfl (fun W1 hW1 => rfl) (KpS.refl _ _ _) ?_
  simp only [Act.put, List.setIfInBounds_toArray, List.set_cons_zero, List.set_cons_succ]
  refine held_takeW (i := 4) (v := .bool true) rfl (by kernel_rfl) (by kernel_rfl) (by kernel_rfl) (fun _ _ _ h => h) rfl (fun W1 hW1 => by go_simp) (KpS.refl _ _ _) ?_
  simp only [Act.put, List.setIfInBounds_toArray, List.set_cons_zero, List.set_cons_succ]
  refine held_take (i := 5) (v := .bool true) rfl (by kernel_rfl) (by kernel_rfl) (by kernel_rfl) (fun _ _ _ h => h) rfl (fun W1 hW1 => rfl) (KpS.refl _ _ _) ?_
  simp only [Act.put, List.setIfInBounds_toArray, List.set_cons_zero, List.set_cons_succ]
  refine held_take (i := 6) (v := .bool true) rfl (by kernel_rfl) (by kernel_rfl) (by kernel_rfl) (fun _ _ _ h => h) rfl (fun W1 hW1 => rfl) (KpS.refl _ _ _) ?_
  simp only [Act.put, List.setIfInBounds_toArray, List.set_cons_zero, List.set_cons_succ]
  refine held_takeW (i := 7) (v := .int .i64 7) rfl (by kernel_rfl) (by kernel_rfl) (by kernel_rfl) (fun _ _ _ h => h) rfl (fun W1 hW1 => rfl) (KpS.refl _ _ _) ?_
  simp only [Act.put, List.setIfInBounds_toArray, List.set_cons_zero, List.set_cons_succ]
  refine held_takeW (i := 8) (v := .bool true) rfl (by kernel_rfl) (by kernel_rfl) (by kernel_rfl) (fun _ _ _ h => h) rfl (fun W1 hW1 => by go_simp) (KpS.refl _ _ _) ?_
  simp only [Act.put, List.setIfInBounds_toArray, List.set_cons_zero, List.set_cons_succ]
  refine held_take (i := 9) (v := .bool true) rfl (by kernel_rfl) (by kernel_rfl) (by kernel_rfl) (fun _ _ _ h => h) rfl (fun W1 hW1 => rfl) (KpS.refl _ _ _) ?_
  simp only [Act.put, List.setIfInBounds_toArray, List.set_cons_zero, List.set_cons_succ]
  refine held_take (i := 10) (v := .bool true) rfl (by kernel_rfl) (by kernel_rfl) (by kernel_rfl) (fun _ _ _ h => h) rfl (fun W1 hW1 => rfl) (KpS.refl _ _ _) ?_
  simp only [Act.put, List.setIfInBounds_toArray, List.set_cons_zero, List.set_cons_succ]
  refine held_takeW (i := 11) (v := .int .i64 1) rfl (by kernel_rfl) (by kernel_rfl) (by kernel_rfl) (fun _ _ _ h => h) rfl (fun W1 hW1 => rfl) (KpS.refl _ _ _) ?_
  simp only [Act.put, List.setIfInBounds_toArray, List.set_cons_zero, List.set_cons_succ]
  refine held_takeW (i := 12) (v := .bool true) rfl (by kernel_rfl) (by kernel_rfl) (by kernel_rfl) (fun _ _ _ h => h) rfl (fun W1 hW1 => by go_simp) (KpS.refl _ _ _) ?_
  simp only [Act.put, List.setIfInBounds_toArray, List.set_cons_zero, List.set_cons_succ]
  refine held_take (i := 13) (v := .bool true) rfl (by kernel_rfl) (by kernel_rfl) (by kernel_rfl) (fun _ _ _ h => h) rfl (fun W1 hW1 => rfl) (KpS.refl _ _ _) ?_
  simp only [Act.put, List.setIfInBounds_toArray, List.set_cons_zero, List.set_cons_succ]
  refine held_take (i := 14) (v := .bool true) rfl (by kernel_rfl) (by kernel_rfl) (by kernel_rfl) (fun _ _ _ h => h) rfl (fun W1 hW1 => rfl) (KpS.refl _ _ _) ?_
  simp only [Act.put, List.setIfInBounds_toArray, List.set_cons_zero, List.set_cons_succ]
  refine held_takeW (i := 15) (v := .int .i64 6) rfl (by kernel_rfl) (by kernel_rfl) (by kernel_rfl) (fun _ _ _ h => h) rfl (fun W1 hW1 => rfl) (KpS.refl _ _ _) ?_
  simp only [Act.put, List.setIfInBounds_toArray, List.set_cons_zero, List.set_cons_succ]
  refine held_takeW (i := 16) (v := .bool true) rfl (by kernel_rfl) (by kernel_rfl) (by kernel_rfl) (fun _ _ _ h => h) rfl (fun W1 hW1 => by go_simp) (KpS.refl _ _ _) ?_
  simp only [Act.put, List.setIfInBounds_toArray, List.set_cons_zero, List.set_cons_succ]
  refine held_take (i := 17) (v := .bool true) rfl (by kernel_rfl) (by kernel_rfl) (by kernel_rfl) (fun _ _ _ h => h) rfl (fun W1 hW1 => rfl) (KpS.refl _ _ _) ?_
  simp only [Act.put, List.setIfInBounds_toArray, List.set_cons_zero, List.set_cons_succ]
  refine held_take (i := 18) (v := .bool true) rfl (by kernel_rfl) (by kernel_rfl) (by kernel_rfl) (fun _ _ _ h => h) rfl (fun W1 hW1 => rfl) (KpS.refl _ _ _) ?_
  simp only [Act.put, List.setIfInBounds_toArray, List.set_cons_zero, List.set_cons_succ]
  refine held_takeW (i := 19) (v := .int .i64 0) rfl (by kernel_rfl) (by kernel_rfl) (by kernel_rfl) (fun _ _ _ h => h) rfl (fun W1 hW1 => rfl) (KpS.refl _ _ _) ?_
  simp only [Act.put, List.setIfInBounds_toArray, List.set_cons_zero, List.set_cons_succ]
  refine held_takeW (i := 20) (v := .bool true) rfl (by kernel_rfl) (by kernel_rfl) (by kernel_rfl) (fun _ _ _ h => h) rfl (fun W1 hW1 => by go_simp) (KpS.refl _ _ _) ?_
  simp only [Act.put, List.setIfInBounds_toArray, List.set_cons_zero, List.set_cons_succ]
  refine held_take (i := 21) (v := .bool true) rfl (by kernel_rfl) (by kernel_rfl) (by kernel_rfl) (fun _ _ _ h => h) rfl (fun W1 hW1 => rfl) (KpS.refl _ _ _) ?_
  simp only [Act.put, List.setIfInBounds_toArray, List.set_cons_zero, List.set_cons_succ]
  refine held_take (i := 22) (v := .bool true) rfl (by kernel_rfl) (by kernel_rfl) (by kernel_rfl) (fun _ _ _ h => h) rfl (fun W1 hW1 => rfl) (KpS.refl _ _ _) ?_
  simp only [Act.put, List.setIfInBounds_toArray, List.set_cons_zero, List.set_cons_succ]
  refine held_takeW (i := 23) (v := .bool true) rfl (by kernel_rfl) (by kernel_rfl) (by kernel_rfl) (fun _ _ _ h => h) rfl (fun W1 hW1 => rfl) (KpS.refl _ _ _) ?_
  simp only [Act.put, List.setIfInBounds_toArray, List.set_cons_zero, List.set_cons_succ]
  refine held_take (i := 24) (v := .bool true) rfl (by kernel_rfl) (by kernel_rfl) (by kernel_rfl) (fun _ _ _ h => h) rfl (fun W1 hW1 => rfl) (KpS.refl _ _ _) ?_
  simp only [Act.put, List.setIfInBounds_toArray, List.set_cons_zero, List.set_cons_succ]
  refine held_take (i := 25) (v := .bool true) rfl (by kernel_rfl) (by kernel_rfl) (by kernel_rfl) (fun _ _ _ h => h) rfl (fun W1 hW1 => rfl) (KpS.refl _ _ _) ?_
  simp only [Act.put, List.setIfInBounds_toArray, List.set_cons_zero, List.set_cons_succ]
  refine held_takeW (i := 26) (v := idV aId) rfl (by kernel_rfl) (by kernel_rfl) (by kernel_rfl) (fun _ _ _ h => h) rfl (fun W1 hW1 => exec_load _ _ _ _ rfl rfl (hld W1 hW1)) (KpS.refl _ _ _) ?_
  simp only [Act.put, List.setIfInBounds_toArray, List.set_cons_zero, List.set_cons_succ]
  refine held_doW (i := 27) (by kernel_rfl) rfl rfl (wp_enter (f := 10) (args := #[.int .i64 1, .int .i64 0, .int .i64 5, .int .i64 2]) (by go_simp) (qid_any wh.drew 1 0 5 2) ?_)
  rintro e wi ⟨rfl, ki⟩
  have kpB : KpS [] wh.heap.size wh.drew wi := kp.keeps ki (Nat.le_refl _) (fun i hi _ => hi)
  refine ⟨_, rfl, kpB, ?_⟩
  simp only [Act.put, List.setIfInBounds_toArray, List.set_cons_zero, List.set_cons_succ]
  have KI := hid ((Keeps.refl [] wh).drew.trans ki)
  clear ki kp
  refine held_takeW (i := 28) (v := .bool true) rfl (by kernel_rfl) (by kernel_rfl) (by kernel_rfl) (fun _ _ _ h => h) rfl (fun W1 hW1 => exec_eqId _ _ _ rfl rfl rfl) (kpB) ?_
  simp only [Act.put, List.setIfInBounds_toArray, List.set_cons_zero, List.set_cons_succ]
  refine held_take (i := 29) (v := .bool true) rfl (by kernel_rfl) (by kernel_rfl) (by kernel_rfl) (fun _ _ _ h => h) rfl (fun W1 hW1 => rfl) (kpB) ?_
  simp only [Act.put, List.setIfInBounds_toArray, List.set_cons_zero, List.set_cons_succ]
  refine held_take (i := 30) (v := .bool true) rfl (by kernel_rfl) (by kernel_rfl) (by kernel_rfl) (fun _ _ _ h => h) rfl (fun W1 hW1 => rfl) (kpB) ?_
  simp only [Act.put, List.setIfInBounds_toArray, List.set_cons_zero, List.set_cons_succ]
  refine held_takeW (i := 31) (v := .pointer (some ⟨t, 0, none⟩)) rfl (by kernel_rfl) (by kernel_rfl) (by kernel_rfl) (fun _ _ _ h => h) rfl (fun W1 hW1 => rfl) (kpB) ?_
  simp only [Act.put, List.setIfInBounds_toArray, List.set_cons_zero, List.set_cons_succ]
  refine held_doW (i := 32) (by kernel_rfl) rfl rfl (wp_enter (f := 14) (args := #[.pointer (some ⟨t, 0, none⟩)]) (by go_simp) (whole_any wi t p q m false (SH.out.keep KI.out).blk) ?_)
  rintro e wj ⟨rfl, hwj⟩
  rw [← hwj]
  clear hwj
  refine ⟨_, rfl, kpB, ?_⟩
  simp only [Act.put, List.setIfInBounds_toArray, List.set_cons_zero, List.set_cons_succ]
  refine held_takeW (i := 33) (v := .bool true) rfl (by kernel_rfl) (by kernel_rfl) (by kernel_rfl) (fun _ _ _ h => h) rfl (fun W1 hW1 => by go_simp) (kpB) ?_
  simp only [Act.put, List.setIfInBounds_toArray, List.set_cons_zero, List.set_cons_succ]
  refine held_take (i := 34) (v := .bool true) rfl (by kernel_rfl) (by kernel_rfl) (by kernel_rfl) (fun _ _ _ h => h) rfl (fun W1 hW1 => rfl) (kpB) ?_
  simp only [Act.put, List.setIfInBounds_toArray, List.set_cons_zero, List.set_cons_succ]
  refine held_take (i := 35) (v := .bool true) rfl (by kernel_rfl) (by kernel_rfl) (by kernel_rfl) (fun _ _ _ h => h) rfl (fun W1 hW1 => rfl) (kpB) ?_
  simp only [Act.put, List.setIfInBounds_toArray, List.set_cons_zero, List.set_cons_succ]
  refine wpAnyH_done (by kernel_rfl) ?_ _
  have KZ := hid (K0.out.trans (KH.out.trans KI.out))
  clear kpB hld
  go_wp2_with fail
  go_ret
  exact ⟨rfl, KZ.out⟩
end Go.Proofs.YtiflkdelplbciaaGreat
