/- blocks: the reference's At, in, Ptrs. -/
import Derived.Test.YtamcllcjondcpaaBkU
namespace Go.Proofs.Ytamcllcjondcpaa
open Go.RowKit Go.Shelf
set_option maxRecDepth 100000
set_option linter.unusedSimpArgs false

set_option maxHeartbeats 3200000 in
theorem rIn_any (w : World) (M : List Nat) (v : Value) (ps : List Pt) (h : PtsAt w M v ps) (hl : ps.length ≤ 100000) (x : Pt) :
    Calls Try.prog 54 #[v, ptV x] w fun e w' => e = .returned (.bool (hasP ps x)) ∧ Keeps [] w w' := by
  have ka : Keeps [] w (w.alloc (.cells x.cells.toArray 47)) := (Keeps.refl [] w).alloc _
  have HX := hid (h.later ka)
  have RA := hid (range_new w x.cells 47)
  have hz : (w.alloc (.cells x.cells.toArray 47)).heap.size = w.heap.size + 1 := by simp
  have HZ := hid hz
  obtain ⟨a, c, rfl⟩ := h.shape
  have KA := hid ka
  clear h ka hz
  go_enter Try.func54, Try.ntmps54
  go_wp2_with (first | (refine wpList_is rfl _ _ (exec_box 47 _ x.cells.toArray rfl rfl) ?_) | fail)
  generalize w.alloc (.cells x.cells.toArray 47) = wA at HX RA HZ KA ⊢
  go_loopw [5] (fun kv wr => ∃ k : Nat, kv = .int .i64 k ∧ k ≤ ps.length ∧ (∀ j (h1 : j < ps.length), j < k → eqP ps[j] x = false) ∧ Keeps [] wA wr) (fun kv _ => ps.length - (intOf kv).toNat)
  case atStart => exact ⟨0, rfl, Nat.zero_le _, fun j _ h => absurd h (Nat.not_lt_zero _), Keeps.refl _ _⟩
  case round =>
    obtain ⟨k, rfl, hk, hall, hkp⟩ := hrel
    have HALL := hid hall
    have HK := hid hkp
    clear hall hkp
    by_cases hlt : k < ps.length
    · obtain ⟨g, off, rfl, _, hcap, hg, hgM, hr⟩ := (HX.out.later HK.out).open (by omega)
      have R1 := range_pt hr k hlt
      obtain ⟨y, hye⟩ : ∃ y, y = ps[k] := ⟨_, rfl⟩
      rw [← hye] at R1
      have HR1 := hid R1
      have HR2 := hid (range_keep RA.out HK.out (by simp))
      have HYE := hid hye
      have HG := hid (And.intro hg (show w.heap.size < wr.heap.size by have := HZ.out; have := HK.out.size; omega))
      clear hr R1 hye hcap hg hgM
      cases he : eqP y x with
      | true =>
        have HE := hid he
        clear he
        go_wp2_with fail
        refine wp_region_any (by kernel_rfl) (wpAny_of_held (S := KpS [] wr.heap.size wr.drew) _ _ _ _ ?_)
        change wpAnyH _ _ _ _ _ _ _ _ wr.drew
        have cX : ∀ W1, KpS [] wr.heap.size wr.drew W1 → W1.rangeAt g (off + k * 5) y.cells := fun W1 h j v hv => h.cell (by rw [World.cell?_drew]; exact HR1.out j v hv) HG.out.1 (by simp)
        have cY : ∀ W1, KpS [] wr.heap.size wr.drew W1 → W1.rangeAt w.heap.size 0 x.cells := fun W1 h j v hv => h.cell (by rw [World.cell?_drew]; exact HR2.out j v hv) HG.out.2 (by simp)
        refine held_take (i := 0) (v := .slice (some ⟨g, off, none⟩) ps.length c) rfl (by kernel_rfl) (by kernel_rfl) (by kernel_rfl) (fun _ _ _ h => h) rfl (fun W1 hW1 => rfl) (KpS.refl _ _ _) ?_
        simp only [Act.put, List.setIfInBounds_toArray, List.set_cons_zero, List.set_cons_succ]
        refine held_take (i := 1) (v := .int .i64 (k : Int)) rfl (by kernel_rfl) (by kernel_rfl) (by kernel_rfl) (fun _ _ _ h => h) rfl (fun W1 hW1 => rfl) (KpS.refl _ _ _) ?_
        simp only [Act.put, List.setIfInBounds_toArray, List.set_cons_zero, List.set_cons_succ]
        refine held_take (i := 2) (v := .pointer (some ⟨g, off + k * 5, none⟩)) rfl (by kernel_rfl) (by kernel_rfl) (by kernel_rfl) (fun _ _ _ h => h) rfl (fun W1 hW1 => by go_simp) (KpS.refl _ _ _) ?_
        simp only [Act.put, List.setIfInBounds_toArray, List.set_cons_zero, List.set_cons_succ]
        refine held_take (i := 3) (v := ptV y) rfl (by kernel_rfl) (by kernel_rfl) (by kernel_rfl) (fun _ _ _ h => h) rfl (fun W1 hW1 => exec_load _ _ _ _ rfl rfl (loadPt_run W1 g (off + k * 5) y (cX W1 hW1))) (KpS.refl _ _ _) ?_
        simp only [Act.put, List.setIfInBounds_toArray, List.set_cons_zero, List.set_cons_succ]
        refine held_take (i := 4) (v := ptV x) rfl (by kernel_rfl) (by kernel_rfl) (by kernel_rfl) (fun _ _ _ h => h) rfl (fun W1 hW1 => exec_load _ _ _ _ rfl rfl (loadPt_run W1 w.heap.size 0 x (cY W1 hW1))) (KpS.refl _ _ _) ?_
        simp only [Act.put, List.setIfInBounds_toArray, List.set_cons_zero, List.set_cons_succ]
        refine held_take (i := 5) (v := .bool true) rfl (by kernel_rfl) (by kernel_rfl) (by kernel_rfl) (fun _ _ _ h => h) rfl (fun W1 hW1 => (exec_eqPts _ _ _ y x rfl rfl rfl).trans (by rw [HE.out])) (KpS.refl _ _ _) ?_
        simp only [Act.put, List.setIfInBounds_toArray, List.set_cons_zero, List.set_cons_succ]
        refine wpAnyH_done (by kernel_rfl) ?_ _
        clear cX cY
        go_wp2_with fail
        go_ret
        have e : hasP ps x = true := hasP_is.2 (by rw [← eqP_is.1 HE.out, HYE.out]; exact List.getElem_mem _)
        rw [e]
        exact ⟨rfl, (KA.out.trans HK.out).drew⟩
      | false =>
        have HE := hid he
        clear he
        go_wp2_with fail
        refine wp_region_any (by kernel_rfl) (wpAny_of_held (S := KpS [] wr.heap.size wr.drew) _ _ _ _ ?_)
        change wpAnyH _ _ _ _ _ _ _ _ wr.drew
        have cX : ∀ W1, KpS [] wr.heap.size wr.drew W1 → W1.rangeAt g (off + k * 5) y.cells := fun W1 h j v hv => h.cell (by rw [World.cell?_drew]; exact HR1.out j v hv) HG.out.1 (by simp)
        have cY : ∀ W1, KpS [] wr.heap.size wr.drew W1 → W1.rangeAt w.heap.size 0 x.cells := fun W1 h j v hv => h.cell (by rw [World.cell?_drew]; exact HR2.out j v hv) HG.out.2 (by simp)
        refine held_take (i := 0) (v := .slice (some ⟨g, off, none⟩) ps.length c) rfl (by kernel_rfl) (by kernel_rfl) (by kernel_rfl) (fun _ _ _ h => h) rfl (fun W1 hW1 => rfl) (KpS.refl _ _ _) ?_
        simp only [Act.put, List.setIfInBounds_toArray, List.set_cons_zero, List.set_cons_succ]
        refine held_take (i := 1) (v := .int .i64 (k : Int)) rfl (by kernel_rfl) (by kernel_rfl) (by kernel_rfl) (fun _ _ _ h => h) rfl (fun W1 hW1 => rfl) (KpS.refl _ _ _) ?_
        simp only [Act.put, List.setIfInBounds_toArray, List.set_cons_zero, List.set_cons_succ]
        refine held_take (i := 2) (v := .pointer (some ⟨g, off + k * 5, none⟩)) rfl (by kernel_rfl) (by kernel_rfl) (by kernel_rfl) (fun _ _ _ h => h) rfl (fun W1 hW1 => by go_simp) (KpS.refl _ _ _) ?_
        simp only [Act.put, List.setIfInBounds_toArray, List.set_cons_zero, List.set_cons_succ]
        refine held_take (i := 3) (v := ptV y) rfl (by kernel_rfl) (by kernel_rfl) (by kernel_rfl) (fun _ _ _ h => h) rfl (fun W1 hW1 => exec_load _ _ _ _ rfl rfl (loadPt_run W1 g (off + k * 5) y (cX W1 hW1))) (KpS.refl _ _ _) ?_
        simp only [Act.put, List.setIfInBounds_toArray, List.set_cons_zero, List.set_cons_succ]
        refine held_take (i := 4) (v := ptV x) rfl (by kernel_rfl) (by kernel_rfl) (by kernel_rfl) (fun _ _ _ h => h) rfl (fun W1 hW1 => exec_load _ _ _ _ rfl rfl (loadPt_run W1 w.heap.size 0 x (cY W1 hW1))) (KpS.refl _ _ _) ?_
        simp only [Act.put, List.setIfInBounds_toArray, List.set_cons_zero, List.set_cons_succ]
        refine held_take (i := 5) (v := .bool false) rfl (by kernel_rfl) (by kernel_rfl) (by kernel_rfl) (fun _ _ _ h => h) rfl (fun W1 hW1 => (exec_eqPts _ _ _ y x rfl rfl rfl).trans (by rw [HE.out])) (KpS.refl _ _ _) ?_
        simp only [Act.put, List.setIfInBounds_toArray, List.set_cons_zero, List.set_cons_succ]
        refine wpAnyH_done (by kernel_rfl) ?_ _
        clear cX cY
        go_wp2_with fail
        go_roundw
        case rel =>
          refine ⟨k + 1, by go_num, by omega, fun j h1 hj => ?_, HK.out.drew⟩
          by_cases e : j = k
          · subst e
            rw [← HYE.out]; exact HE.out
          · exact HALL.out j h1 (by omega)
        case measure => simp [intOf]; omega
    · obtain rfl : k = ps.length := by omega
      go_wp2_with fail
      go_ret
      have e : hasP ps x = false := by
        cases hq : hasP ps x with
        | false => rfl
        | true =>
          obtain ⟨j, hj, hje⟩ := List.mem_iff_getElem.1 (hasP_is.1 hq)
          have h3 := HALL.out j hj hj
          rw [hje, eqP_is.2 rfl] at h3
          cases h3
      rw [e]
      exact ⟨rfl, KA.out.trans HK.out⟩

set_option maxHeartbeats 1600000 in
theorem rAt_any11 {w : World} {q : Nat} {F : List Nat} {s : Bk} (h : RkAt w q F s) (b : Int) : Calls Try.prog 47 #[.pointer (some ⟨q, 0, none⟩), .int .i64 b] w (AtPost w (atB s.L b)) := by
  have kA : Keeps [] w (w.alloc (.cells pZ.cells.toArray 47)) := (Keeps.refl [] w).alloc _
  have HA := h.later kA
  obtain ⟨a, c, hb, hr, _, _⟩ := HA.cells
  have HV := hid hr.at
  obtain ⟨c0, c1, f0, f1⟩ := two_cells hb
  have HF := hid h.few
  clear hr hb c0 f0 f1 HA h kA
  by_cases h0 : b < 0
  · have E : Hid (atB s.L b = pZ) := hid (by unfold atB; rw [if_neg (by omega)])
    clear c1
    go_enter Try.func47, Try.ntmps47
    go_wp2_with (first | (refine wpList_is rfl _ _ (exec_alloc 47 pZ.cells.toArray iPtr2 rfl) ?_) | (refine wpList_is rfl _ _ (exec_buildPtZ rfl) ?_) | (refine wpList_noval rfl _ (exec_storeNew 47 _ _ rfl w pZ.cells.toArray pZ.cells.toArray rfl rfl rfl iPtr2 rfl (cells_one pZ)) ?_) | fail)
    refine bodyPost_ret (pt_ret rfl rfl (range_new w pZ.cells 47)) rfl ?_
    exact ⟨by rw [E.out], (Keeps.refl [] w).alloc _⟩
  · by_cases h1 : b < (s.L.length : Int)
    · obtain ⟨k, rfl⟩ := Int.eq_ofNat_of_zero_le (show 0 ≤ b by omega)
      have hk : k < s.L.length := by omega
      have E : Hid (atB s.L (k : Int) = s.L[k]) := hid (by
        unfold atB
        rw [if_pos (by omega), List.getD_eq_getElem?_getD, Int.toNat_natCast, List.getElem?_eq_getElem hk]
        rfl)
      obtain ⟨g, off, rfl, _, hcap, hg, hM, hr⟩ := HV.out.open (by omega)
      have R0 := range_pt hr k hk
      obtain ⟨y, hy⟩ : ∃ y, y = s.L[k] := ⟨_, rfl⟩
      rw [← hy] at R0 E
      have R := hid R0
      clear hr hcap hg hM h0 hy hk R0
      go_enter Try.func47, Try.ntmps47
      go_wp2_with (first | (refine wpList_is rfl _ _ (exec_alloc 47 pZ.cells.toArray iPtr2 rfl) ?_) | (refine wpList_loadPt rfl _ rfl g (off + k * 5) rfl y R.out ?_) | (refine wpList_noval rfl _ (exec_storeNew 47 _ _ rfl w pZ.cells.toArray y.cells.toArray rfl rfl rfl iPtr2 rfl (cells_one _)) ?_) | fail)
      refine bodyPost_ret (pt_ret rfl rfl (range_new w y.cells 47)) rfl ?_
      exact ⟨by rw [E.out], (Keeps.refl [] w).alloc _⟩
    · have E : Hid (atB s.L b = pZ) := hid (by
        unfold atB
        rw [if_pos (by omega), List.getD_eq_getElem?_getD, List.getElem?_eq_none (by omega)]
        rfl)
      go_enter Try.func47, Try.ntmps47
      go_wp2_with (first | (refine wpList_is rfl _ _ (exec_alloc 47 pZ.cells.toArray iPtr2 rfl) ?_) | (refine wpList_is rfl _ _ (exec_buildPtZ rfl) ?_) | (refine wpList_noval rfl _ (exec_storeNew 47 _ _ rfl w pZ.cells.toArray pZ.cells.toArray rfl rfl rfl iPtr2 rfl (cells_one pZ)) ?_) | fail)
      refine bodyPost_ret (pt_ret rfl rfl (range_new w pZ.cells 47)) rfl ?_
      exact ⟨by rw [E.out], (Keeps.refl [] w).alloc _⟩

set_option maxHeartbeats 3200000 in
theorem rPtrs_any {w : World} {q : Nat} {F : List Nat} {s : Bk} (h : RkAt w q F s) : Calls Try.prog 46 #[.pointer (some ⟨q, 0, none⟩)] w fun e w' => ∃ a c, e = .returned (.slice a (s.L.filter keepZ).length c) ∧ OwnP w' w.heap.size [] (.slice a (s.L.filter keepZ).length c) (s.L.filter keepZ) ∧ Keeps [] w w' := by
  obtain ⟨a, c, hb, hr, _, _⟩ := h.cells
  have HV := hid hr.at
  have HB := hid hb
  have HF := hid h.few
  clear hr hb h
  go_enter Try.func46, Try.ntmps46
  go_wp2_with fail
  go_loopw [3, 4] (fun lv kv wr => ∃ (k : Nat) (b : Option Addr) (n d : Nat), kv = .int .i64 k ∧ k ≤ s.L.length ∧ lv = .slice b n d ∧ n = ((s.L.take k).filter keepZ).length ∧ OwnP wr w.heap.size [] (.slice b n d) ((s.L.take k).filter keepZ) ∧ Keeps [] w wr) (fun _ kv _ => s.L.length - (intOf kv).toNat)
  case atStart => exact ⟨0, none, 0, 0, rfl, Nat.zero_le _, rfl, rfl, OwnP.nil _ _ _ (by simp), Keeps.refl _ _⟩
  case round =>
    obtain ⟨k, b, n, d, rfl, hk, rfl, hn, ho, hkp⟩ := hrel
    have HN := hid hn
    have HO := hid ho
    have K := hid hkp
    have c1 := (two_cells ((hkp.block q (lt_of_block HB.out) (by simp)).trans HB.out)).2.1
    clear hn ho hkp
    by_cases hlt : k < s.L.length
    · have hk64 : k < 64 := by have := HF.out; omega
      have HE := hid (filterZ_snoc s.L k hlt)
      obtain ⟨g, off, rfl, _, hcap, hg, hgM, hr⟩ := (HV.out.later K.out).open (by omega)
      have R0 := range_pt hr k hlt
      obtain ⟨y, hy⟩ : ∃ y, y = s.L[k] := ⟨_, rfl⟩
      rw [← hy] at R0 HE
      have R := hid R0
      obtain ⟨L, hL⟩ : ∃ L, L = (s.L.take k).filter keepZ := ⟨_, rfl⟩
      have HLL := hid (show L.length ≤ 64 by rw [hL]; have := filterZ_le (s.L.take k); rw [List.length_take] at this; omega)
      rw [← hL] at HN HO HE
      clear hr hcap hg hgM R0 hy hL
      cases hz : zB y with
      | true =>
        have EQ := hid (show eqP y pZ = true from eqP_is.2 (zB_is.1 hz))
        rw [show keepZ y = false by unfold keepZ; rw [hz]; rfl] at HE
        clear hz
        go_wp2_with (first | (refine wpList_isW rfl _ _ (exec_load _ _ _ _ rfl rfl (loadPt_run _ g (off + k * 5) y R.out)) ?_) | (refine wpList_is rfl _ _ (exec_buildPtZ rfl) ?_) | (refine wpList_is rfl (.bool false) _ ((exec_neqPts _ _ _ y pZ rfl rfl rfl).trans (by rw [EQ.out]; rfl)) ?_) | fail)
        go_roundw
        case rel =>
          refine ⟨k + 1, b, n, d, by go_num, by omega, rfl, ?_, ?_, K.out⟩
          · rw [HE.out]; simpa using HN.out
          · rw [HE.out]; simpa using HO.out
        case measure => simp [intOf]; omega
      | false =>
        have EQ := hid (show eqP y pZ = false from by
          cases hq : eqP y pZ with
          | false => rfl
          | true => rw [zB_is.2 (eqP_is.1 hq)] at hz; cases hz)
        rw [show keepZ y = true by unfold keepZ; rw [hz]; rfl] at HE
        clear hz
        have k5 : Keeps [] wr (wr.alloc (.cells y.cells.toArray 47)) := (Keeps.refl [] wr).alloc _
        have S5 := one_pts wr [] (by simp) y
        obtain ⟨a', c', w6, hrun, o6, k6⟩ := append_pts (HO.out.later k5) _ _ _ S5 (by have := HLL.out; simp; omega) (by have := K.out.size; have := k5.size; omega) 39
        have O6 := hid o6
        have K6 := hid ((K.out.trans k5).trans' k6 (S := []) (fun i hi hm => by have := (HO.out.blk i (by simpa using hm)).1; omega))
        have RUN := hid hrun
        clear k5 S5 hrun o6 k6
        go_wp2_with (first | (refine wpList_isW rfl _ _ (exec_load _ _ _ _ rfl rfl (loadPt_run _ g (off + k * 5) y R.out)) ?_) | (refine wpList_is rfl _ _ (exec_buildPtZ rfl) ?_) | (refine wpList_is rfl (.bool true) _ ((exec_neqPts _ _ _ y pZ rfl rfl rfl).trans (by rw [EQ.out]; rfl)) ?_) | (refine wpList_is rfl _ _ (exec_onePt _ y rfl rfl) ?_) | (refine wpList_is rfl _ _ (exec_appendT 39 _ _ rfl rfl rfl RUN.out) ?_) | fail)
        go_roundw
        case rel =>
          refine ⟨k + 1, a', _, c', by go_num, by omega, rfl, ?_, ?_, K6.out⟩
          · rw [HE.out]; simp
          · rw [HE.out]; exact O6.out
        case measure => simp [intOf]; omega
    · obtain rfl : k = s.L.length := by omega
      go_wp2_with fail
      go_ret
      rw [List.take_length] at HN HO
      exact ⟨b, d, by rw [HN.out]; rfl, by rw [← HN.out]; exact HO.out, K.out⟩
end Go.Proofs.Ytamcllcjondcpaa
