/- blocks: the reference's change, a kind. -/
import Derived.Test.YtdfhoanilbfkiaaBkX0
namespace Go.Proofs.Ytdfhoanilbfkiaa
open Go.RowKit Go.Shelf
set_option maxRecDepth 100000
set_option linter.unusedSimpArgs false

set_option maxHeartbeats 12800000 in
theorem rChangePut_any {w : World} {q : Nat} {F : List Nat} {s : Bk} (h : RkAt w q F s) (hg : GoodB s) (x : Dl) (h1 : x.d = 1) : Calls Try.prog 37 #[.pointer (some ⟨q, 0, none⟩), dlV x] w (RchPost w q F s x) := by
  have H := hid h
  have HG := hid hg
  have ka : Keeps [] w (w.alloc (.cells x.cells.toArray 34)) := (Keeps.refl [] w).alloc _
  have HA := hid (h.later ka)
  have RA := hid (range_new w x.cells 34)
  have DA := hid (dl_range RA.out)
  have KA := hid ka
  have HSZ := hid (show w.heap.size < (w.alloc (.cells x.cells.toArray 34)).heap.size by simp)
  have HFW := hid h.lt
  have d0 := DA.out.c0
  have d2 := DA.out.c2
  have d3 := DA.out.c3
  simp only [Nat.zero_add] at d2 d3
  obtain ⟨r, hr⟩ : ∃ r, r = mayD s x := ⟨_, rfl⟩
  unfold mayD at hr
  have HR := hid hr
  have HRE := hid (show r = mayD s x by rw [hr]; rfl)
  clear h hg ka hr
  have e1 : (x.d == 1) = true := by simpa using h1
  have HD := hid (fun (hm : mayD s x = true) => show doD s x = ⟨max s.sz x.s, (fitL s.L (cnt (max s.sz x.s))).set x.b.toNat x.t⟩ by unfold doD; rw [if_pos h1])
  rw [if_pos h1] at HR
  clear h1
  by_cases b0 : x.b < 0
  · have B0 := hid b0
    go_enter Try.func37, Try.ntmps37
    go_wp2_with (first | (refine wpList_is rfl _ _ (exec_box 34 _ x.cells.toArray rfl rfl) ?_) | fail)
    go_ret
    exact rch_no H.out (by rw [← HRE.out, HR.out]; rw [show btw x.b 0 63 = false from by have := B0.out; simp [btw]; omega]; rfl) KA.out
  by_cases b1 : 64 ≤ x.b
  · have B1 := hid b1
    go_enter Try.func37, Try.ntmps37
    go_wp2_with (first | (refine wpList_is rfl _ _ (exec_box 34 _ x.cells.toArray rfl rfl) ?_) | fail)
    go_ret
    exact rch_no H.out (by rw [← HRE.out, HR.out]; rw [show btw x.b 0 63 = false from by have := B1.out; simp [btw]; omega]; rfl) KA.out
  by_cases b2 : x.s ≤ x.b * 64
  · have B2 := hid b2
    go_enter Try.func37, Try.ntmps37
    go_wp2_with (first | (refine wpList_is rfl _ _ (exec_box 34 _ x.cells.toArray rfl rfl) ?_) | fail)
    go_ret
    exact rch_no H.out (by rw [← HRE.out, HR.out]; rw [show btw x.s (x.b * 64 + 1) 4096 = false from by have := B2.out; simp [btw]; omega]; simp) KA.out
  by_cases b3 : 4096 < x.s
  · have B3 := hid b3
    go_enter Try.func37, Try.ntmps37
    go_wp2_with (first | (refine wpList_is rfl _ _ (exec_box 34 _ x.cells.toArray rfl rfl) ?_) | fail)
    go_ret
    exact rch_no H.out (by rw [← HRE.out, HR.out]; rw [show btw x.s (x.b * 64 + 1) 4096 = false from by have := B3.out; simp [btw]; omega]; simp) KA.out
  cases hmt : mayP x.t with
  | false =>
    have MT := hid hmt
    clear hmt
    go_enter Try.func37, Try.ntmps37
    go_wp2_with (first | (refine wpList_is rfl _ _ (exec_box 34 _ x.cells.toArray rfl rfl) ?_) | (refine wpList_isW rfl _ _ (exec_load _ _ _ _ rfl rfl (loadPt_run _ w.heap.size (0 + 4) x.t DA.out.t)) ?_) | fail)
    refine (rMayPtr_any _ x.t).mono ?_
    rintro e w2 ⟨rfl, k2⟩
    have K2 := hid (KA.out.trans k2)
    clear k2
    rw [MT.out]
    go_wp2_with fail
    go_ret
    exact rch_no H.out (by rw [← HRE.out, HR.out, MT.out]; simp) K2.out
  | true =>
    have MT := hid hmt
    clear hmt
    have HM := hid (show mayD s x = true by
      rw [← HRE.out, HR.out, MT.out, Bool.and_true, Bool.and_eq_true]
      exact ⟨btw_is.2 ⟨by omega, by omega⟩, btw_is.2 ⟨by omega, by omega⟩⟩)
    obtain ⟨k, hk⟩ : ∃ k : Nat, x.b = (k : Int) := ⟨x.b.toNat, by omega⟩
    have HKB := hid (show x.b.toNat = k by omega)
    have hk64 : k < 64 := by omega
    have b0k : ¬ ((k : Int) < 0) := by omega
    have b1k : ¬ (64 ≤ (k : Int)) := by omega
    have b2k : ¬ (x.s ≤ (k : Int) * 64) := by omega
    obtain ⟨n, hn⟩ : ∃ n : Int, n = max s.sz x.s := ⟨_, rfl⟩
    have hlo := HG.out.lo
    have hhi := HG.out.hi
    have HN0 := hid (show 0 ≤ n ∧ n ≤ 4096 by omega)
    have HKN := hid (show k < cnt n by unfold cnt; omega)
    have HNE := hid hn
    clear hlo hhi
    go_enter Try.func37, Try.ntmps37
    go_wp2_with (first | (refine wpList_is rfl _ _ (exec_box 34 _ x.cells.toArray rfl rfl) ?_) | (refine wpList_isW rfl _ _ (exec_load _ _ _ _ rfl rfl (loadPt_run _ w.heap.size (0 + 4) x.t DA.out.t)) ?_) | fail)
    refine (rMayPtr_any _ x.t).mono ?_
    rintro e w2 ⟨rfl, k2⟩
    have K2 := hid (KA.out.trans k2)
    have H2 := hid (HA.out.later k2)
    have D2 := hid (DA.out.keep k2 (by simp))
    have HS2 := hid (show w.heap.size < w2.heap.size by have := HSZ.out; have := k2.size; omega)
    clear k2
    rw [MT.out]
    go_wp2_with fail
    obtain ⟨ra, rc, hb2, hx1, hx2, hx3⟩ := H2.out.cells
    clear hx1 hx2 hx3
    obtain ⟨c0, c1, f0, f1⟩ := two_cells hb2
    refine wp_region_any (by kernel_rfl) (wpAny_of_late (late := [10]) (S := KpS [] w2.heap.size w2.drew) _ _ _ _ ?_)
    change wpAnyT _ _ _ _ _ _ _ _ _ w2.drew
    have cQ : ∀ W1, KpS [] w2.heap.size w2.drew W1 → W1.cell? ⟨q, 0, none⟩ = some (.int .i64 s.sz) := fun W1 h => h.cell (by rw [World.cell?_drew]; exact c0) (lt_of_block hb2) (by simp)
    have cD : ∀ W1, KpS [] w2.heap.size w2.drew W1 → DlAt W1 w.heap.size 0 x := fun W1 h => (D2.out.keep ((Keeps.refl [] w2).drew) (by simp)).kp h HS2.out (by simp)
    refine late_take (i := 0) (v := .pointer (some ⟨q, 0, none⟩)) rfl (by kernel_rfl) (by kernel_rfl) (by kernel_rfl) (by kernel_rfl) (by kernel_rfl) (fun _ _ _ h => h) rfl (fun W1 hW1 => rfl) (KpS.refl _ _ _) ?_
    simp only [Act.put, List.setIfInBounds_toArray, List.set_cons_zero, List.set_cons_succ]
    refine late_take (i := 1) (v := .pointer (some ⟨q, 0, none⟩)) rfl (by kernel_rfl) (by kernel_rfl) (by kernel_rfl) (by kernel_rfl) (by kernel_rfl) (fun _ _ _ h => h) rfl (fun W1 hW1 => rfl) (KpS.refl _ _ _) ?_
    simp only [Act.put, List.setIfInBounds_toArray, List.set_cons_zero, List.set_cons_succ]
    refine late_take (i := 2) (v := .pointer (some ⟨q, 0, none⟩)) rfl (by kernel_rfl) (by kernel_rfl) (by kernel_rfl) (by kernel_rfl) (by kernel_rfl) (fun _ _ _ h => h) rfl (fun W1 hW1 => by go_simp) (KpS.refl _ _ _) ?_
    simp only [Act.put, List.setIfInBounds_toArray, List.set_cons_zero, List.set_cons_succ]
    refine late_take (i := 3) (v := .pointer (some ⟨q, 0, none⟩)) rfl (by kernel_rfl) (by kernel_rfl) (by kernel_rfl) (by kernel_rfl) (by kernel_rfl) (fun _ _ _ h => h) rfl (fun W1 hW1 => by go_simp) (KpS.refl _ _ _) ?_
    simp only [Act.put, List.setIfInBounds_toArray, List.set_cons_zero, List.set_cons_succ]
    refine late_take (i := 4) (v := .int .i64 s.sz) rfl (by kernel_rfl) (by kernel_rfl) (by kernel_rfl) (by kernel_rfl) (by kernel_rfl) (fun _ _ _ h => h) rfl (fun W1 hW1 => exec_load _ _ _ _ rfl rfl (run_loadCell W1 _ _ _ (cQ W1 hW1) (agg_no _ (by kernel_rfl)))) (KpS.refl _ _ _) ?_
    simp only [Act.put, List.setIfInBounds_toArray, List.set_cons_zero, List.set_cons_succ]
    refine late_take (i := 5) (v := .pointer (some ⟨w.heap.size, 3, none⟩)) rfl (by kernel_rfl) (by kernel_rfl) (by kernel_rfl) (by kernel_rfl) (by kernel_rfl) (fun _ _ _ h => h) rfl (fun W1 hW1 => by go_simp) (KpS.refl _ _ _) ?_
    simp only [Act.put, List.setIfInBounds_toArray, List.set_cons_zero, List.set_cons_succ]
    refine late_take (i := 6) (v := .int .i64 x.s) rfl (by kernel_rfl) (by kernel_rfl) (by kernel_rfl) (by kernel_rfl) (by kernel_rfl) (fun _ _ _ h => h) rfl (fun W1 hW1 => exec_load _ _ _ _ rfl rfl (run_loadCell W1 _ _ _ (by have := (cD W1 hW1).c3; simpa using this) (agg_no _ (by kernel_rfl)))) (KpS.refl _ _ _) ?_
    simp only [Act.put, List.setIfInBounds_toArray, List.set_cons_zero, List.set_cons_succ]
    refine late_take (i := 7) (v := .int .i64 n) rfl (by kernel_rfl) (by kernel_rfl) (by kernel_rfl) (by kernel_rfl) (by kernel_rfl) (fun _ _ _ h => h) rfl (fun W1 hW1 => by rw [hn]; go_simp) (KpS.refl _ _ _) ?_
    simp only [Act.put, List.setIfInBounds_toArray, List.set_cons_zero, List.set_cons_succ]
    refine late_take (i := 8) (v := .pointer (some ⟨q, 0, none⟩)) rfl (by kernel_rfl) (by kernel_rfl) (by kernel_rfl) (by kernel_rfl) (by kernel_rfl) (fun _ _ _ h => h) rfl (fun W1 hW1 => by go_simp) (KpS.refl _ _ _) ?_
    simp only [Act.put, List.setIfInBounds_toArray, List.set_cons_zero, List.set_cons_succ]
    refine late_take (i := 9) (v := .pointer (some ⟨q, 0, none⟩)) rfl (by kernel_rfl) (by kernel_rfl) (by kernel_rfl) (by kernel_rfl) (by kernel_rfl) (fun _ _ _ h => h) rfl (fun W1 hW1 => by go_simp) (KpS.refl _ _ _) ?_
    simp only [Act.put, List.setIfInBounds_toArray, List.set_cons_zero, List.set_cons_succ]
    have fd : w2.drew.frozen? ⟨q, 0, none⟩ = false := f0
    have cd : w2.drew.cell? ⟨q, 0, none⟩ = some (.int .i64 s.sz) := c0
    refine late_do (i := 10) (by kernel_rfl) rfl rfl (wp_stored (w' := w2.drew.setCell ⟨q, 0, none⟩ (.int .i64 n)) (by go_simp) ⟨Or.inl rfl, ?_⟩)
    simp only [Act.put]
    refine wpAnyT_done (by kernel_rfl) ?_ _
    obtain ⟨r3, k3⟩ := rk_size (H2.out.later ((Keeps.refl [] w2).drew)) n
    have K3 := hid ((K2.out.drew.mono (S' := F) (by simp)).trans k3)
    have R3 := hid r3
    have D3 := hid ((D2.out.keep ((Keeps.refl [] w2).drew) (by simp)).keep k3 (fun hm => by have := HFW.out _ hm; omega))
    have HS3 := hid (show w.heap.size < (w2.drew.setCell ⟨q, 0, none⟩ (.int .i64 n)).heap.size from Nat.lt_of_lt_of_le HS2.out k3.size)
    clear cQ cD fd cd r3 k3 hb2 c0 c1 f0 f1 hn
    generalize w2.drew.setCell ⟨q, 0, none⟩ (.int .i64 n) = w3 at K3 R3 D3 HS3 ⊢
    go_wp2_with fail
    refine (rFit_any R3.out HN0.out.1 HN0.out.2).mono ?_
    rintro e w4 ⟨rfl, F4, r4, k4, f4⟩
    have R4 := hid r4
    have K4 := hid (K3.out.trans k4)
    have FF4 := hid (show ∀ b ∈ F4, b ∈ F ∨ w.heap.size < b from fun b hb => by
      rcases f4 b hb with h | h
      · exact Or.inl h
      · exact Or.inr (by have := HS3.out; omega))
    have D4 := hid (D3.out.keep k4 (fun hm => by have := HFW.out _ hm; omega))
    have HS4 := hid (show w.heap.size < w4.heap.size by have := HS3.out; have := k4.size; omega)
    clear r4 k4 f4
    go_wp2_with fail
    have hk4 : k < (fitL s.L (cnt n)).length := by rw [fitL_len]; exact HKN.out
    obtain ⟨g, cap, cur, hb4, hgb, hfit, hgF, hgq, _⟩ := rk_point (w' := w4) R4.out k hk4 x.t
    simp only at hb4
    obtain ⟨c0, c1, f0, f1⟩ := two_cells hb4
    have e4 : (fitL s.L (cnt n)).length = cnt n := fitL_len _ _
    rw [e4] at c1
    have hkn : (k : Int) < (cnt n : Int) := by have := HKN.out; omega
    refine wp_region_any (by kernel_rfl) (wpAny_of_late (late := [9]) (S := KpS [] w4.heap.size w4.drew) _ _ _ _ ?_)
    change wpAnyT _ _ _ _ _ _ _ _ _ w4.drew
    have cQ : ∀ W1, KpS [] w4.heap.size w4.drew W1 → W1.cell? ⟨q, 1, none⟩ = some (.slice (some ⟨g, 0, none⟩) (cnt n) cap) := fun W1 h => h.cell (by rw [World.cell?_drew]; exact c1) (lt_of_block hb4) (by simp)
    have cD : ∀ W1, KpS [] w4.heap.size w4.drew W1 → DlAt W1 w.heap.size 0 x := fun W1 h => (D4.out.keep ((Keeps.refl [] w4).drew) (by simp)).kp h HS4.out (by simp)
    refine late_take (i := 0) (v := .pointer (some ⟨q, 0, none⟩)) rfl (by kernel_rfl) (by kernel_rfl) (by kernel_rfl) (by kernel_rfl) (by kernel_rfl) (fun _ _ _ h => h) rfl (fun W1 hW1 => rfl) (KpS.refl _ _ _) ?_
    simp only [Act.put, List.setIfInBounds_toArray, List.set_cons_zero, List.set_cons_succ]
    refine late_take (i := 1) (v := .pointer (some ⟨q, 0, none⟩)) rfl (by kernel_rfl) (by kernel_rfl) (by kernel_rfl) (by kernel_rfl) (by kernel_rfl) (fun _ _ _ h => h) rfl (fun W1 hW1 => by go_simp) (KpS.refl _ _ _) ?_
    simp only [Act.put, List.setIfInBounds_toArray, List.set_cons_zero, List.set_cons_succ]
    refine late_take (i := 2) (v := .pointer (some ⟨q, 1, none⟩)) rfl (by kernel_rfl) (by kernel_rfl) (by kernel_rfl) (by kernel_rfl) (by kernel_rfl) (fun _ _ _ h => h) rfl (fun W1 hW1 => by go_simp) (KpS.refl _ _ _) ?_
    simp only [Act.put, List.setIfInBounds_toArray, List.set_cons_zero, List.set_cons_succ]
    refine late_take (i := 3) (v := .slice (some ⟨g, 0, none⟩) (cnt n) cap) rfl (by kernel_rfl) (by kernel_rfl) (by kernel_rfl) (by kernel_rfl) (by kernel_rfl) (fun _ _ _ h => h) rfl (fun W1 hW1 => exec_load _ _ _ _ rfl rfl (run_loadCell W1 _ _ _ (cQ W1 hW1) (agg_no _ (by kernel_rfl)))) (KpS.refl _ _ _) ?_
    simp only [Act.put, List.setIfInBounds_toArray, List.set_cons_zero, List.set_cons_succ]
    refine late_take (i := 4) (v := .pointer (some ⟨w.heap.size, 2, none⟩)) rfl (by kernel_rfl) (by kernel_rfl) (by kernel_rfl) (by kernel_rfl) (by kernel_rfl) (fun _ _ _ h => h) rfl (fun W1 hW1 => by go_simp) (KpS.refl _ _ _) ?_
    simp only [Act.put, List.setIfInBounds_toArray, List.set_cons_zero, List.set_cons_succ]
    refine late_take (i := 5) (v := .int .i64 (k : Int)) rfl (by kernel_rfl) (by kernel_rfl) (by kernel_rfl) (by kernel_rfl) (by kernel_rfl) (fun _ _ _ h => h) rfl (fun W1 hW1 => exec_load _ _ _ _ rfl rfl (run_loadCell W1 _ _ _ (by have := (cD W1 hW1).c2; rw [hk] at this; simpa using this) (agg_no _ (by kernel_rfl)))) (KpS.refl _ _ _) ?_
    simp only [Act.put, List.setIfInBounds_toArray, List.set_cons_zero, List.set_cons_succ]
    refine late_take (i := 6) (v := .pointer (some ⟨w.heap.size, 4, none⟩)) rfl (by kernel_rfl) (by kernel_rfl) (by kernel_rfl) (by kernel_rfl) (by kernel_rfl) (fun _ _ _ h => h) rfl (fun W1 hW1 => by go_simp) (KpS.refl _ _ _) ?_
    simp only [Act.put, List.setIfInBounds_toArray, List.set_cons_zero, List.set_cons_succ]
    refine late_take (i := 7) (v := ptV x.t) rfl (by kernel_rfl) (by kernel_rfl) (by kernel_rfl) (by kernel_rfl) (by kernel_rfl) (fun _ _ _ h => h) rfl (fun W1 hW1 => exec_load _ _ _ _ rfl rfl (loadPt_run W1 w.heap.size 4 x.t (by have := (cD W1 hW1).t; simpa using this))) (KpS.refl _ _ _) ?_
    simp only [Act.put, List.setIfInBounds_toArray, List.set_cons_zero, List.set_cons_succ]
    refine late_take (i := 8) (v := .pointer (some ⟨g, k * 5, none⟩)) rfl (by kernel_rfl) (by kernel_rfl) (by kernel_rfl) (by kernel_rfl) (by kernel_rfl) (fun _ _ _ h => h) rfl (fun W1 hW1 => by go_simp) (KpS.refl _ _ _) ?_
    simp only [Act.put, List.setIfInBounds_toArray, List.set_cons_zero, List.set_cons_succ]
    have hbD : w4.drew.heap[g]? = some (.cells cur 28 (0, 0)) := hgb
    obtain ⟨s1, s2⟩ := setRow_keepsP (cs := (cur.toList.take (k * 5) ++ x.t.cells ++ cur.toList.drop (k * 5 + 5)).toArray) hbD
    refine late_do (i := 9) (by kernel_rfl) rfl rfl (wp_stored (exec_storePtAt _ _ rfl g (k * 5) rfl cur hbD hfit x.t rfl) ⟨Or.inl rfl, ?_⟩)
    simp only [Act.put]
    refine wpAnyT_done (by kernel_rfl) ?_ _
    obtain ⟨g', cap', cur', hb4', hgb', hfit', hgF', hgq', hset⟩ := rk_point (w' := w4.drew.setRow g (cur.toList.take (k * 5) ++ x.t.cells ++ cur.toList.drop (k * 5 + 5)).toArray) R4.out k hk4 x.t
    rw [hb4] at hb4'
    injection hb4' with e
    injection e with e _ _
    have e' := congrArg (fun z : Array Value => z[1]?) e
    simp at e'
    obtain ⟨rfl, _⟩ := e'
    rw [hgb] at hgb'
    injection hgb' with e
    injection e with e _ _
    subst e
    have R5 := hid (hset s1 (((Keeps.refl [g] w4).drew).trans s2))
    have K5 := hid (K4.out.drew.trans' s2 (fun i hi hm => by
      simp at hm
      subst hm
      rcases FF4.out i hgF with h | h
      · exact h
      · omega))
    clear cQ cD hbD s1 s2 hset hb4 hgb hfit hgF hgq c0 c1 f0 f1
    generalize w4.drew.setRow g (cur.toList.take (k * 5) ++ x.t.cells ++ cur.toList.drop (k * 5 + 5)).toArray = w5 at R5 K5 ⊢
    go_wp2_with fail
    go_ret
    refine rch_yes HM.out (F' := F4) ?_ K5.out (fun b hb => (FF4.out b hb).imp id (fun h => Nat.le_of_lt h))
    rw [HD.out HM.out, HKB.out, ← HNE.out]
    exact R5.out
end Go.Proofs.Ytdfhoanilbfkiaa
