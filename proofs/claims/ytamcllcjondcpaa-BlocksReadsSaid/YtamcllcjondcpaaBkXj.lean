/- BkX0, BkX1, BkX2, BkX3, BkX. -/
import Derived.Test.YtamcllcjondcpaaBkW
import Derived.Test.YtamcllcjondcpaaKitB
/- blocks: the reference's change. -/
namespace Go.Proofs.Ytamcllcjondcpaa
open Go.RowKit Go.Shelf
set_option maxRecDepth 100000
set_option linter.unusedSimpArgs false

def RchPost (w : World) (q : Nat) (F : List Nat) (s : Bk) (x : Dl) (e : Ending) (w' : World) : Prop :=
  e = .returned (.bool (mayD s x)) ∧ ∃ F', RkAt w' q F' (stepD s x) ∧ Keeps F w w' ∧ ∀ b ∈ F', b ∈ F ∨ w.heap.size ≤ b
theorem rch_no {w w' : World} {q : Nat} {F : List Nat} {s : Bk} {x : Dl} (h : RkAt w q F s) (hm : mayD s x = false) (k : Keeps [] w w') : RchPost w q F s x (.returned (.bool false)) w' := by
  refine ⟨by rw [hm], F, ?_, k.mono (by simp), fun b hb => Or.inl hb⟩
  unfold stepD
  rw [if_neg (by rw [hm]; simp)]
  exact h.later k
theorem rch_yes {w w' : World} {q : Nat} {F F' : List Nat} {s : Bk} {x : Dl} (hm : mayD s x = true) (h : RkAt w' q F' (doD s x)) (k : Keeps F w w') (hf : ∀ b ∈ F', b ∈ F ∨ w.heap.size ≤ b) : RchPost w q F s x (.returned (.bool true)) w' := by
  refine ⟨by rw [hm], F', ?_, k, hf⟩
  unfold stepD
  rw [if_pos hm]
  exact h
theorem rk_size {w : World} {q : Nat} {F : List Nat} {s : Bk} (h : RkAt w q F s) (z : Int) : RkAt (w.setCell ⟨q, 0, none⟩ (.int .i64 z)) q F ⟨z, s.L⟩ ∧ Keeps F w (w.setCell ⟨q, 0, none⟩ (.int .i64 z)) := by
  obtain ⟨⟨v, hb, hr, hq, rfl⟩, h2⟩ := h
  have ks : Keeps [q] w (w.setCell ⟨q, 0, none⟩ (.int .i64 z)) := (Keeps.refl [q] w).setCell (Or.inl (by simp)) _
  exact ⟨⟨⟨v, (heap_twoR hb _).1, hr.keep ks (fun b ho hm => by simp at hm; subst hm; exact hq ho), hq, rfl⟩, h2⟩, ks.mono (fun i _ hm => by simp at hm; simp [hm])⟩
theorem rk_point {w w' : World} {q : Nat} {F : List Nat} {s : Bk} (h : RkAt w q F s) (k : Nat) (hk : k < s.L.length) (x : Pt) :
    ∃ g cap cur, w.heap[q]? = some (.cells #[.int .i64 s.sz, .slice (some ⟨g, 0, none⟩) s.L.length cap] 41 (0, 0)) ∧ w.heap[g]? = some (.cells cur 47 (0, 0)) ∧ k * 5 + 5 ≤ cur.size ∧ g ∈ F ∧ g ≠ q ∧
      (w'.heap[g]? = some (.cells (cur.toList.take (k * 5) ++ x.cells ++ cur.toList.drop (k * 5 + 5)).toArray 47 (0, 0)) → Keeps [g] w w' → RkAt w' q F ⟨s.sz, s.L.set k x⟩) := by
  obtain ⟨⟨v, hb, hr, hq, rfl⟩, h2⟩ := h
  rcases id hr with ⟨_, h0⟩ | ⟨g, cap, cur0, rfl, hb0, _⟩
  · rw [h0] at hk; simp at hk
  · obtain ⟨cur, hg, hfit, hset⟩ := hr.set (w' := w') k hk x
    have hgq : g ≠ q := fun e => hq (by simp [Value.ownBlock, e])
    refine ⟨g, cap, cur, hb, hg, hfit, by simp [Value.ownBlock], hgq, fun hw kk => ⟨⟨_, (kk.block q (lt_of_block hb) (by simp; exact fun e => hgq e.symm)).trans hb, by simpa using hset hw, hq, rfl⟩, by simpa using h2⟩⟩

end Go.Proofs.Ytamcllcjondcpaa


/- blocks: the reference's change, a kind. -/
namespace Go.Proofs.Ytamcllcjondcpaa
open Go.RowKit Go.Shelf
set_option maxRecDepth 100000
set_option linter.unusedSimpArgs false

set_option maxHeartbeats 12800000 in
theorem rChangePut_any {w : World} {q : Nat} {F : List Nat} {s : Bk} (h : RkAt w q F s) (hg : GoodB s) (x : Dl) (h1 : x.d = 1) : Calls Try.prog 53 #[.pointer (some ⟨q, 0, none⟩), dlV x] w (RchPost w q F s x) := by
  have H := hid h
  have HG := hid hg
  have ka : Keeps [] w (w.alloc (.cells x.cells.toArray 49)) := (Keeps.refl [] w).alloc _
  have HA := hid (h.later ka)
  have RA := hid (range_new w x.cells 49)
  have DA := hid (dl_range RA.out)
  have KA := hid ka
  have HSZ := hid (show w.heap.size < (w.alloc (.cells x.cells.toArray 49)).heap.size by simp)
  have HFW := hid h.lt
  have d0 := DA.out.c0
  have d2 := DA.out.c2
  have d3 := DA.out.c3
  simp only [Nat.zero_add] at d2 d3
  obtain ⟨r, hr⟩ : ∃ r, r = mayD s x := ⟨_, rfl⟩
  unfold mayD at hr
  have HR := hid hr
  have HRE := hid (show r = mayD s x by rw [hr]; rfl)
  clear h hg ka hr
  have e1 : (x.d == 1) = true := by simpa using h1
  have HD := hid (fun (hm : mayD s x = true) => show doD s x = ⟨max s.sz x.s, (fitL s.L (cnt (max s.sz x.s))).set x.b.toNat x.t⟩ by unfold doD; rw [if_pos h1])
  rw [if_pos h1] at HR
  clear h1
  by_cases b0 : x.b < 0
  · have B0 := hid b0
    go_enter Try.func53, Try.ntmps53
    go_wp2_with (first | (refine wpList_is rfl _ _ (exec_box 49 _ x.cells.toArray rfl rfl) ?_) | fail)
    go_ret
    exact rch_no H.out (by rw [← HRE.out, HR.out]; rw [show btw x.b 0 63 = false from by have := B0.out; simp [btw]; omega]; rfl) KA.out
  by_cases b1 : 64 ≤ x.b
  · have B1 := hid b1
    go_enter Try.func53, Try.ntmps53
    go_wp2_with (first | (refine wpList_is rfl _ _ (exec_box 49 _ x.cells.toArray rfl rfl) ?_) | fail)
    go_ret
    exact rch_no H.out (by rw [← HRE.out, HR.out]; rw [show btw x.b 0 63 = false from by have := B1.out; simp [btw]; omega]; rfl) KA.out
  by_cases b2 : x.s ≤ x.b * 64
  · have B2 := hid b2
    go_enter Try.func53, Try.ntmps53
    go_wp2_with (first | (refine wpList_is rfl _ _ (exec_box 49 _ x.cells.toArray rfl rfl) ?_) | fail)
    go_ret
    exact rch_no H.out (by rw [← HRE.out, HR.out]; rw [show btw x.s (x.b * 64 + 1) 4096 = false from by have := B2.out; simp [btw]; omega]; simp) KA.out
  by_cases b3 : 4096 < x.s
  · have B3 := hid b3
    go_enter Try.func53, Try.ntmps53
    go_wp2_with (first | (refine wpList_is rfl _ _ (exec_box 49 _ x.cells.toArray rfl rfl) ?_) | fail)
    go_ret
    exact rch_no H.out (by rw [← HRE.out, HR.out]; rw [show btw x.s (x.b * 64 + 1) 4096 = false from by have := B3.out; simp [btw]; omega]; simp) KA.out
  cases hmt : mayP x.t with
  | false =>
    have MT := hid hmt
    clear hmt
    go_enter Try.func53, Try.ntmps53
    go_wp2_with (first | (refine wpList_is rfl _ _ (exec_box 49 _ x.cells.toArray rfl rfl) ?_) | (refine wpList_isW rfl _ _ (exec_load _ _ _ _ rfl rfl (loadPt_run _ w.heap.size (0 + 4) x.t DA.out.t)) ?_) | fail)
    refine (rMayPtr_any _ x.t).mono ?_
    rintro e w2 ⟨rfl, k2⟩
    have K2 := hid (KA.out.trans k2)
    clear k2
    rw [MT.out]
    go_wp2_with fail
    go_ret
    exact rch_no H.out (by rw [← HRE.out, HR.out, MT.out]; simp) K2.out
  | true =>
    have MT := hid hmt
    clear hmt
    have HM := hid (show mayD s x = true by
      rw [← HRE.out, HR.out, MT.out, Bool.and_true, Bool.and_eq_true]
      exact ⟨btw_is.2 ⟨by omega, by omega⟩, btw_is.2 ⟨by omega, by omega⟩⟩)
    obtain ⟨k, hk⟩ : ∃ k : Nat, x.b = (k : Int) := ⟨x.b.toNat, by omega⟩
    have HKB := hid (show x.b.toNat = k by omega)
    have hk64 : k < 64 := by omega
    have b0k : ¬ ((k : Int) < 0) := by omega
    have b1k : ¬ (64 ≤ (k : Int)) := by omega
    have b2k : ¬ (x.s ≤ (k : Int) * 64) := by omega
    obtain ⟨n, hn⟩ : ∃ n : Int, n = max s.sz x.s := ⟨_, rfl⟩
    have hlo := HG.out.lo
    have hhi := HG.out.hi
    have HN0 := hid (show 0 ≤ n ∧ n ≤ 4096 by omega)
    have HKN := hid (show k < cnt n by unfold cnt; omega)
    have HNE := hid hn
    clear hlo hhi
    go_enter Try.func53, Try.ntmps53
    go_wp2_with (first | (refine wpList_is rfl _ _ (exec_box 49 _ x.cells.toArray rfl rfl) ?_) | (refine wpList_isW rfl _ _ (exec_load _ _ _ _ rfl rfl (loadPt_run _ w.heap.size (0 + 4) x.t DA.out.t)) ?_) | fail)
    refine (rMayPtr_any _ x.t).mono ?_
    rintro e w2 ⟨rfl, k2⟩
    have K2 := hid (KA.out.trans k2)
    have H2 := hid (HA.out.later k2)
    have D2 := hid (DA.out.keep k2 (by simp))
    have HS2 := hid (show w.heap.size < w2.heap.size by have := HSZ.out; have := k2.size; omega)
    clear k2
    rw [MT.out]
    go_wp2_with fail
    obtain ⟨ra, rc, hb2, hx1, hx2, hx3⟩ := H2.out.cells
    clear hx1 hx2 hx3
    obtain ⟨c0, c1, f0, f1⟩ := two_cells hb2
    refine wp_region_any (by kernel_rfl) (wpAny_of_late (late := [10]) (S := KpS [] w2.heap.size w2.drew) _ _ _ _ ?_)
    change wpAnyT _ _ _ _ _ _ _ _ _ w2.drew
    have cQ : ∀ W1, KpS [] w2.heap.size w2.drew W1 → W1.cell? ⟨q, 0, none⟩ = some (.int .i64 s.sz) := fun W1 h => h.cell (by rw [World.cell?_drew]; exact c0) (lt_of_block hb2) (by simp)
    have cD : ∀ W1, KpS [] w2.heap.size w2.drew W1 → DlAt W1 w.heap.size 0 x := fun W1 h => (D2.out.keep ((Keeps.refl [] w2).drew) (by simp)).kp h HS2.out (by simp)
    refine late_take (i := 0) (v := .pointer (some ⟨q, 0, none⟩)) rfl (by kernel_rfl) (by kernel_rfl) (by kernel_rfl) (by kernel_rfl) (by kernel_rfl) (fun _ _ _ h => h) rfl (fun W1 hW1 => rfl) (KpS.refl _ _ _) ?_
    simp only [Act.put, List.setIfInBounds_toArray, List.set_cons_zero, List.set_cons_succ]
    refine late_take (i := 1) (v := .pointer (some ⟨q, 0, none⟩)) rfl (by kernel_rfl) (by kernel_rfl) (by kernel_rfl) (by kernel_rfl) (by kernel_rfl) (fun _ _ _ h => h) rfl (fun W1 hW1 => rfl) (KpS.refl _ _ _) ?_
    simp only [Act.put, List.setIfInBounds_toArray, List.set_cons_zero, List.set_cons_succ]
    refine late_take (i := 2) (v := .pointer (some ⟨q, 0, none⟩)) rfl (by kernel_rfl) (by kernel_rfl) (by kernel_rfl) (by kernel_rfl) (by kernel_rfl) (fun _ _ _ h => h) rfl (fun W1 hW1 => by go_simp) (KpS.refl _ _ _) ?_
    simp only [Act.put, List.setIfInBounds_toArray, List.set_cons_zero, List.set_cons_succ]
    refine late_take (i := 3) (v := .pointer (some ⟨q, 0, none⟩)) rfl (by kernel_rfl) (by kernel_rfl) (by kernel_rfl) (by kernel_rfl) (by kernel_rfl) (fun _ _ _ h => h) rfl (fun W1 hW1 => by go_simp) (KpS.refl _ _ _) ?_
    simp only [Act.put, List.setIfInBounds_toArray, List.set_cons_zero, List.set_cons_succ]
    refine late_take (i := 4) (v := .int .i64 s.sz) rfl (by kernel_rfl) (by kernel_rfl) (by kernel_rfl) (by kernel_rfl) (by kernel_rfl) (fun _ _ _ h => h) rfl (fun W1 hW1 => exec_load _ _ _ _ rfl rfl (run_loadCell W1 _ _ _ (cQ W1 hW1) (agg_no _ (by kernel_rfl)))) (KpS.refl _ _ _) ?_
    simp only [Act.put, List.setIfInBounds_toArray, List.set_cons_zero, List.set_cons_succ]
    refine late_take (i := 5) (v := .pointer (some ⟨w.heap.size, 3, none⟩)) rfl (by kernel_rfl) (by kernel_rfl) (by kernel_rfl) (by kernel_rfl) (by kernel_rfl) (fun _ _ _ h => h) rfl (fun W1 hW1 => by go_simp) (KpS.refl _ _ _) ?_
    simp only [Act.put, List.setIfInBounds_toArray, List.set_cons_zero, List.set_cons_succ]
    refine late_take (i := 6) (v := .int .i64 x.s) rfl (by kernel_rfl) (by kernel_rfl) (by kernel_rfl) (by kernel_rfl) (by kernel_rfl) (fun _ _ _ h => h) rfl (fun W1 hW1 => exec_load _ _ _ _ rfl rfl (run_loadCell W1 _ _ _ (by have := (cD W1 hW1).c3; simpa using this) (agg_no _ (by kernel_rfl)))) (KpS.refl _ _ _) ?_
    simp only [Act.put, List.setIfInBounds_toArray, List.set_cons_zero, List.set_cons_succ]
    refine late_take (i := 7) (v := .int .i64 n) rfl (by kernel_rfl) (by kernel_rfl) (by kernel_rfl) (by kernel_rfl) (by kernel_rfl) (fun _ _ _ h => h) rfl (fun W1 hW1 => by rw [hn]; go_simp) (KpS.refl _ _ _) ?_
    simp only [Act.put, List.setIfInBounds_toArray, List.set_cons_zero, List.set_cons_succ]
    refine late_take (i := 8) (v := .pointer (some ⟨q, 0, none⟩)) rfl (by kernel_rfl) (by kernel_rfl) (by kernel_rfl) (by kernel_rfl) (by kernel_rfl) (fun _ _ _ h => h) rfl (fun W1 hW1 => by go_simp) (KpS.refl _ _ _) ?_
    simp only [Act.put, List.setIfInBounds_toArray, List.set_cons_zero, List.set_cons_succ]
    refine late_take (i := 9) (v := .pointer (some ⟨q, 0, none⟩)) rfl (by kernel_rfl) (by kernel_rfl) (by kernel_rfl) (by kernel_rfl) (by kernel_rfl) (fun _ _ _ h => h) rfl (fun W1 hW1 => by go_simp) (KpS.refl _ _ _) ?_
    simp only [Act.put, List.setIfInBounds_toArray, List.set_cons_zero, List.set_cons_succ]
    have fd : w2.drew.frozen? ⟨q, 0, none⟩ = false := f0
    have cd : w2.drew.cell? ⟨q, 0, none⟩ = some (.int .i64 s.sz) := c0
    refine late_do (i := 10) (by kernel_rfl) rfl rfl (wp_stored (w' := w2.drew.setCell ⟨q, 0, none⟩ (.int .i64 n)) (by go_simp) ⟨Or.inl rfl, ?_⟩)
    simp only [Act.put]
    refine wpAnyT_done (by kernel_rfl) ?_ _
    obtain ⟨r3, k3⟩ := rk_size (H2.out.later ((Keeps.refl [] w2).drew)) n
    have K3 := hid ((K2.out.drew.mono (S' := F) (by simp)).trans k3)
    have R3 := hid r3
    have D3 := hid ((D2.out.keep ((Keeps.refl [] w2).drew) (by simp)).keep k3 (fun hm => by have := HFW.out _ hm; omega))
    have HS3 := hid (show w.heap.size < (w2.drew.setCell ⟨q, 0, none⟩ (.int .i64 n)).heap.size from Nat.lt_of_lt_of_le HS2.out k3.size)
    clear cQ cD fd cd r3 k3 hb2 c0 c1 f0 f1 hn
    generalize w2.drew.setCell ⟨q, 0, none⟩ (.int .i64 n) = w3 at K3 R3 D3 HS3 ⊢
    go_wp2_with fail
    refine (rFit_any R3.out HN0.out.1 HN0.out.2).mono ?_
    rintro e w4 ⟨rfl, F4, r4, k4, f4⟩
    have R4 := hid r4
    have K4 := hid (K3.out.trans k4)
    have FF4 := hid (show ∀ b ∈ F4, b ∈ F ∨ w.heap.size < b from fun b hb => by
      rcases f4 b hb with h | h
      · exact Or.inl h
      · exact Or.inr (by have := HS3.out; omega))
    have D4 := hid (D3.out.keep k4 (fun hm => by have := HFW.out _ hm; omega))
    have HS4 := hid (show w.heap.size < w4.heap.size by have := HS3.out; have := k4.size; omega)
    clear r4 k4 f4
    go_wp2_with fail
    have hk4 : k < (fitL s.L (cnt n)).length := by rw [fitL_len]; exact HKN.out
    obtain ⟨g, cap, cur, hb4, hgb, hfit, hgF, hgq, _⟩ := rk_point (w' := w4) R4.out k hk4 x.t
    simp only at hb4
    obtain ⟨c0, c1, f0, f1⟩ := two_cells hb4
    have e4 : (fitL s.L (cnt n)).length = cnt n := fitL_len _ _
    rw [e4] at c1
    have hkn : (k : Int) < (cnt n : Int) := by have := HKN.out; omega
    refine wp_region_any (by kernel_rfl) (wpAny_of_late (late := [9]) (S := KpS [] w4.heap.size w4.drew) _ _ _ _ ?_)
    change wpAnyT _ _ _ _ _ _ _ _ _ w4.drew
    have cQ : ∀ W1, KpS [] w4.heap.size w4.drew W1 → W1.cell? ⟨q, 1, none⟩ = some (.slice (some ⟨g, 0, none⟩) (cnt n) cap) := fun W1 h => h.cell (by rw [World.cell?_drew]; exact c1) (lt_of_block hb4) (by simp)
    have cD : ∀ W1, KpS [] w4.heap.size w4.drew W1 → DlAt W1 w.heap.size 0 x := fun W1 h => (D4.out.keep ((Keeps.refl [] w4).drew) (by simp)).kp h HS4.out (by simp)
    refine late_take (i := 0) (v := .pointer (some ⟨q, 0, none⟩)) rfl (by kernel_rfl) (by kernel_rfl) (by kernel_rfl) (by kernel_rfl) (by kernel_rfl) (fun _ _ _ h => h) rfl (fun W1 hW1 => rfl) (KpS.refl _ _ _) ?_
    simp only [Act.put, List.setIfInBounds_toArray, List.set_cons_zero, List.set_cons_succ]
    refine late_take (i := 1) (v := .pointer (some ⟨q, 0, none⟩)) rfl (by kernel_rfl) (by kernel_rfl) (by kernel_rfl) (by kernel_rfl) (by kernel_rfl) (fun _ _ _ h => h) rfl (fun W1 hW1 => by go_simp) (KpS.refl _ _ _) ?_
    simp only [Act.put, List.setIfInBounds_toArray, List.set_cons_zero, List.set_cons_succ]
    refine late_take (i := 2) (v := .pointer (some ⟨q, 1, none⟩)) rfl (by kernel_rfl) (by kernel_rfl) (by kernel_rfl) (by kernel_rfl) (by kernel_rfl) (fun _ _ _ h => h) rfl (fun W1 hW1 => by go_simp) (KpS.refl _ _ _) ?_
    simp only [Act.put, List.setIfInBounds_toArray, List.set_cons_zero, List.set_cons_succ]
    refine late_take (i := 3) (v := .slice (some ⟨g, 0, none⟩) (cnt n) cap) rfl (by kernel_rfl) (by kernel_rfl) (by kernel_rfl) (by kernel_rfl) (by kernel_rfl) (fun _ _ _ h => h) rfl (fun W1 hW1 => exec_load _ _ _ _ rfl rfl (run_loadCell W1 _ _ _ (cQ W1 hW1) (agg_no _ (by kernel_rfl)))) (KpS.refl _ _ _) ?_
    simp only [Act.put, List.setIfInBounds_toArray, List.set_cons_zero, List.set_cons_succ]
    refine late_take (i := 4) (v := .pointer (some ⟨w.heap.size, 2, none⟩)) rfl (by kernel_rfl) (by kernel_rfl) (by kernel_rfl) (by kernel_rfl) (by kernel_rfl) (fun _ _ _ h => h) rfl (fun W1 hW1 => by go_simp) (KpS.refl _ _ _) ?_
    simp only [Act.put, List.setIfInBounds_toArray, List.set_cons_zero, List.set_cons_succ]
    refine late_take (i := 5) (v := .int .i64 (k : Int)) rfl (by kernel_rfl) (by kernel_rfl) (by kernel_rfl) (by kernel_rfl) (by kernel_rfl) (fun _ _ _ h => h) rfl (fun W1 hW1 => exec_load _ _ _ _ rfl rfl (run_loadCell W1 _ _ _ (by have := (cD W1 hW1).c2; rw [hk] at this; simpa using this) (agg_no _ (by kernel_rfl)))) (KpS.refl _ _ _) ?_
    simp only [Act.put, List.setIfInBounds_toArray, List.set_cons_zero, List.set_cons_succ]
    refine late_take (i := 6) (v := .pointer (some ⟨w.heap.size, 4, none⟩)) rfl (by kernel_rfl) (by kernel_rfl) (by kernel_rfl) (by kernel_rfl) (by kernel_rfl) (fun _ _ _ h => h) rfl (fun W1 hW1 => by go_simp) (KpS.refl _ _ _) ?_
    simp only [Act.put, List.setIfInBounds_toArray, List.set_cons_zero, List.set_cons_succ]
    refine late_take (i := 7) (v := ptV x.t) rfl (by kernel_rfl) (by kernel_rfl) (by kernel_rfl) (by kernel_rfl) (by kernel_rfl) (fun _ _ _ h => h) rfl (fun W1 hW1 => exec_load _ _ _ _ rfl rfl (loadPt_run W1 w.heap.size 4 x.t (by have := (cD W1 hW1).t; simpa using this))) (KpS.refl _ _ _) ?_
    simp only [Act.put, List.setIfInBounds_toArray, List.set_cons_zero, List.set_cons_succ]
    refine late_take (i := 8) (v := .pointer (some ⟨g, k * 5, none⟩)) rfl (by kernel_rfl) (by kernel_rfl) (by kernel_rfl) (by kernel_rfl) (by kernel_rfl) (fun _ _ _ h => h) rfl (fun W1 hW1 => by go_simp) (KpS.refl _ _ _) ?_
    simp only [Act.put, List.setIfInBounds_toArray, List.set_cons_zero, List.set_cons_succ]
    have hbD : w4.drew.heap[g]? = some (.cells cur 47 (0, 0)) := hgb
    obtain ⟨s1, s2⟩ := setRow_keepsP (cs := (cur.toList.take (k * 5) ++ x.t.cells ++ cur.toList.drop (k * 5 + 5)).toArray) hbD
    refine late_do (i := 9) (by kernel_rfl) rfl rfl (wp_stored (exec_storePtAt _ _ rfl g (k * 5) rfl cur hbD hfit x.t rfl) ⟨Or.inl rfl, ?_⟩)
    simp only [Act.put]
    refine wpAnyT_done (by kernel_rfl) ?_ _
    obtain ⟨g', cap', cur', hb4', hgb', hfit', hgF', hgq', hset⟩ := rk_point (w' := w4.drew.setRow g (cur.toList.take (k * 5) ++ x.t.cells ++ cur.toList.drop (k * 5 + 5)).toArray) R4.out k hk4 x.t
    rw [hb4] at hb4'
    injection hb4' with e
    injection e with e _ _
    have e' := congrArg (fun z : Array Value => z[1]?) e
    simp at e'
    obtain ⟨rfl, _⟩ := e'
    rw [hgb] at hgb'
    injection hgb' with e
    injection e with e _ _
    subst e
    have R5 := hid (hset s1 (((Keeps.refl [g] w4).drew).trans s2))
    have K5 := hid (K4.out.drew.trans' s2 (fun i hi hm => by
      simp at hm
      subst hm
      rcases FF4.out i hgF with h | h
      · exact h
      · omega))
    clear cQ cD hbD s1 s2 hset hb4 hgb hfit hgF hgq c0 c1 f0 f1
    generalize w4.drew.setRow g (cur.toList.take (k * 5) ++ x.t.cells ++ cur.toList.drop (k * 5 + 5)).toArray = w5 at R5 K5 ⊢
    go_wp2_with fail
    go_ret
    refine rch_yes HM.out (F' := F4) ?_ K5.out (fun b hb => (FF4.out b hb).imp id (fun h => Nat.le_of_lt h))
    rw [HD.out HM.out, HKB.out, ← HNE.out]
    exact R5.out
end Go.Proofs.Ytamcllcjondcpaa


/- blocks: the reference's change, a kind. -/
namespace Go.Proofs.Ytamcllcjondcpaa
open Go.RowKit Go.Shelf
set_option maxRecDepth 100000
set_option linter.unusedSimpArgs false

set_option maxHeartbeats 12800000 in
theorem rChangeCut_any {w : World} {q : Nat} {F : List Nat} {s : Bk} (h : RkAt w q F s) (hg : GoodB s) (x : Dl) (h1 : ¬ x.d = 1) (h2 : x.d = 2) : Calls Try.prog 53 #[.pointer (some ⟨q, 0, none⟩), dlV x] w (RchPost w q F s x) := by
  have H := hid h
  have HG := hid hg
  have ka : Keeps [] w (w.alloc (.cells x.cells.toArray 49)) := (Keeps.refl [] w).alloc _
  have HA := hid (h.later ka)
  have RA := hid (range_new w x.cells 49)
  have DA := hid (dl_range RA.out)
  have KA := hid ka
  have HSZ := hid (show w.heap.size < (w.alloc (.cells x.cells.toArray 49)).heap.size by simp)
  have HFW := hid h.lt
  have d0 := DA.out.c0
  have d2 := DA.out.c2
  have d3 := DA.out.c3
  simp only [Nat.zero_add] at d2 d3
  obtain ⟨r, hr⟩ : ∃ r, r = mayD s x := ⟨_, rfl⟩
  unfold mayD at hr
  have HR := hid hr
  have HRE := hid (show r = mayD s x by rw [hr]; rfl)
  clear h hg ka hr
  have e1 : (x.d == 1) = false := by simpa using h1
  have e2 : (x.d == 2) = true := by simpa using h2
  have HD := hid (fun (hm : mayD s x = true) => show doD s x = ⟨x.s, fitL s.L (cnt x.s)⟩ by unfold doD; rw [if_neg h1, if_pos h2])
  rw [if_neg h1, if_pos h2] at HR
  clear h1 h2
  by_cases b0 : x.s < 0
  · have B0 := hid b0
    go_enter Try.func53, Try.ntmps53
    go_wp2_with (first | (refine wpList_is rfl _ _ (exec_box 49 _ x.cells.toArray rfl rfl) ?_) | fail)
    go_ret
    exact rch_no H.out (by rw [← HRE.out, HR.out]; have := B0.out; simp [btw]; omega) KA.out
  by_cases b1 : 4096 < x.s
  · have B1 := hid b1
    go_enter Try.func53, Try.ntmps53
    go_wp2_with (first | (refine wpList_is rfl _ _ (exec_box 49 _ x.cells.toArray rfl rfl) ?_) | fail)
    go_ret
    exact rch_no H.out (by rw [← HRE.out, HR.out]; have := B1.out; simp [btw]; omega) KA.out
  have HM := hid (show mayD s x = true by rw [← HRE.out, HR.out]; exact btw_is.2 ⟨by omega, by omega⟩)
  have HN0 := hid (show 0 ≤ x.s ∧ x.s ≤ 4096 by omega)
  obtain ⟨ra, rc, hb2, hx1, hx2, hx3⟩ := HA.out.cells
  clear hx1 hx2 hx3
  obtain ⟨c0, c1, f0, f1⟩ := two_cells hb2
  obtain ⟨r3, k3⟩ := rk_size HA.out x.s
  have R3 := hid r3
  have K3 := hid ((KA.out.mono (S' := F) (by simp)).trans k3)
  clear r3 k3 hb2 c1 f1
  go_enter Try.func53, Try.ntmps53
  go_wp2_with (first | (refine wpList_is rfl _ _ (exec_box 49 _ x.cells.toArray rfl rfl) ?_) | fail)
  refine (rFit_any R3.out HN0.out.1 HN0.out.2).mono ?_
  rintro e w4 ⟨rfl, F4, r4, k4, f4⟩
  have R4 := hid r4
  have K4 := hid (K3.out.trans k4)
  have FF4 := hid (show ∀ b ∈ F4, b ∈ F ∨ w.heap.size ≤ b from fun b hb => by
    rcases f4 b hb with h | h
    · exact Or.inl h
    · exact Or.inr (Nat.le_trans K3.out.size h))
  clear r4 k4 f4
  go_wp2_with fail
  go_ret
  refine rch_yes HM.out (F' := F4) ?_ K4.out FF4.out
  rw [HD.out HM.out]
  exact R4.out
end Go.Proofs.Ytamcllcjondcpaa


/- blocks: the reference's change, a kind. -/
namespace Go.Proofs.Ytamcllcjondcpaa
open Go.RowKit Go.Shelf
set_option maxRecDepth 100000
set_option linter.unusedSimpArgs false

set_option maxHeartbeats 12800000 in
theorem rChangeMove_any {w : World} {q : Nat} {F : List Nat} {s : Bk} (h : RkAt w q F s) (hg : GoodB s) (x : Dl) (h1 : ¬ x.d = 1) (h2 : ¬ x.d = 2) (h3 : x.d = 3) : Calls Try.prog 53 #[.pointer (some ⟨q, 0, none⟩), dlV x] w (RchPost w q F s x) := by
  have H := hid h
  have HG := hid hg
  have ka : Keeps [] w (w.alloc (.cells x.cells.toArray 49)) := (Keeps.refl [] w).alloc _
  have HA := hid (h.later ka)
  have RA := hid (range_new w x.cells 49)
  have DA := hid (dl_range RA.out)
  have KA := hid ka
  have HSZ := hid (show w.heap.size < (w.alloc (.cells x.cells.toArray 49)).heap.size by simp)
  have HFW := hid h.lt
  have d0 := DA.out.c0
  have d2 := DA.out.c2
  have d3 := DA.out.c3
  simp only [Nat.zero_add] at d2 d3
  obtain ⟨r, hr⟩ : ∃ r, r = mayD s x := ⟨_, rfl⟩
  unfold mayD at hr
  have HR := hid hr
  have HRE := hid (show r = mayD s x by rw [hr]; rfl)
  clear h hg ka hr
  have e1 : (x.d == 1) = false := by simpa using h1
  have e2 : (x.d == 2) = false := by simpa using h2
  have e3 : (x.d == 3) = true := by simpa using h3
  have HD := hid (fun (hm : mayD s x = true) => show doD s x = ⟨s.sz, s.L.set x.b.toNat x.t⟩ by unfold doD; rw [if_neg h1, if_neg h2])
  rw [if_neg h1, if_neg h2, if_pos h3] at HR
  clear h1 h2 h3
  obtain ⟨y, hy⟩ : ∃ y, y = atB s.L x.b := ⟨_, rfl⟩
  rw [← hy] at HR
  have HY := hid hy
  clear hy
  cases hz : zB y with
  | true =>
    have Z2 := hid (show eqP y pZ = true from eqP_is.2 (zB_is.1 hz))
    have HM := hid (show mayD s x = false by
      rw [← HRE.out, HR.out]
      cases hzo : zB x.o with
      | true => simp
      | false =>
        have : eqP y x.o = false := by
          cases hq : eqP y x.o with
          | false => rfl
          | true => rw [eqP_is.1 hq] at hz; rw [hz] at hzo; cases hzo
        rw [this]; simp)
    clear hz
    go_enter Try.func53, Try.ntmps53
    go_wp2_with (first | (refine wpList_is rfl _ _ (exec_box 49 _ x.cells.toArray rfl rfl) ?_) | fail)
    refine (rAt_any11 HA.out x.b).mono ?_
    rintro e w2 ⟨rfl, k2⟩
    rw [← HY.out]
    have KY : Keeps [] w2 (w2.alloc (.cells y.cells.toArray 47)) := (Keeps.refl [] w2).alloc _
    have RY := hid (range_new w2 y.cells 47)
    have DY := hid (DA.out.keep (k2.trans KY) (by simp))
    have K3 := hid (KA.out.trans (k2.trans KY))
    have H3 := hid (HA.out.later (k2.trans KY))
    have HS3 := hid (show w.heap.size < (w2.alloc (.cells y.cells.toArray 47)).heap.size by have := HSZ.out; have := (k2.trans KY).size; omega)
    clear k2 KY
    go_wp2_with (first | go_big_skip | (refine wpList_is rfl _ _ (exec_alloc 47 pZ.cells.toArray iPtr2 rfl) ?_) | (refine wpList_noval rfl _ (exec_storeNew 47 _ _ rfl w2 pZ.cells.toArray y.cells.toArray rfl rfl rfl iPtr2 rfl (cells_one _)) ?_) | (refine wpList_isW rfl _ _ (exec_load _ _ _ _ rfl rfl (loadPt_run _ w2.heap.size 0 y RY.out)) ?_) | (refine wpList_isW rfl _ _ (exec_buildPtZ rfl) ?_) | (refine wpList_isW rfl (.bool true) _ ((exec_eqPts _ _ _ y pZ rfl rfl rfl).trans (by rw [Z2.out])) ?_) | (refine wpList_isW rfl _ _ (exec_load _ _ _ _ rfl rfl (loadPt_run _ w.heap.size (0 + 9) x.o DY.out.o)) ?_) | fail)
    go_ret
    exact rch_no H.out HM.out K3.out
  | false =>
    have Z2 := hid (show eqP y pZ = false from by
      cases hq : eqP y pZ with
      | false => rfl
      | true => rw [zB_is.2 (eqP_is.1 hq)] at hz; cases hz)
    have ZY := hid hz
    clear hz
    cases ho : eqP y x.o with
    | false =>
      have EO := hid ho
      have HM := hid (show mayD s x = false by rw [← HRE.out, HR.out, ho]; simp)
      clear ho
      go_enter Try.func53, Try.ntmps53
      go_wp2_with (first | (refine wpList_is rfl _ _ (exec_box 49 _ x.cells.toArray rfl rfl) ?_) | fail)
      refine (rAt_any11 HA.out x.b).mono ?_
      rintro e w2 ⟨rfl, k2⟩
      rw [← HY.out]
      have KY : Keeps [] w2 (w2.alloc (.cells y.cells.toArray 47)) := (Keeps.refl [] w2).alloc _
      have RY := hid (range_new w2 y.cells 47)
      have DY := hid (DA.out.keep (k2.trans KY) (by simp))
      have K3 := hid (KA.out.trans (k2.trans KY))
      have H3 := hid (HA.out.later (k2.trans KY))
      have HS3 := hid (show w.heap.size < (w2.alloc (.cells y.cells.toArray 47)).heap.size by have := HSZ.out; have := (k2.trans KY).size; omega)
      clear k2 KY
      go_wp2_with (first | go_big_skip | (refine wpList_is rfl _ _ (exec_alloc 47 pZ.cells.toArray iPtr2 rfl) ?_) | (refine wpList_noval rfl _ (exec_storeNew 47 _ _ rfl w2 pZ.cells.toArray y.cells.toArray rfl rfl rfl iPtr2 rfl (cells_one _)) ?_) | (refine wpList_isW rfl _ _ (exec_load _ _ _ _ rfl rfl (loadPt_run _ w2.heap.size 0 y RY.out)) ?_) | (refine wpList_isW rfl _ _ (exec_buildPtZ rfl) ?_) | (refine wpList_isW rfl (.bool false) _ ((exec_eqPts _ _ _ y pZ rfl rfl rfl).trans (by rw [Z2.out])) ?_) | (refine wpList_isW rfl _ _ (exec_load _ _ _ _ rfl rfl (loadPt_run _ w.heap.size (0 + 9) x.o DY.out.o)) ?_) | (refine wpList_isW rfl (.bool true) _ ((exec_neqPts _ _ _ y x.o rfl rfl rfl).trans (by rw [EO.out]; rfl)) ?_) | fail)
      go_ret
      exact rch_no H.out HM.out K3.out
    | true =>
      have EO := hid ho
      have ZO := hid (show zB x.o = false by rw [← eqP_is.1 ho]; exact ZY.out)
      clear ho
      cases hmt : mayP x.t with
      | false =>
        have MT := hid hmt
        have HM := hid (show mayD s x = false by rw [← HRE.out, HR.out, hmt]; simp)
        clear hmt
        go_enter Try.func53, Try.ntmps53
        go_wp2_with (first | (refine wpList_is rfl _ _ (exec_box 49 _ x.cells.toArray rfl rfl) ?_) | fail)
        refine (rAt_any11 HA.out x.b).mono ?_
        rintro e w2 ⟨rfl, k2⟩
        rw [← HY.out]
        have KY : Keeps [] w2 (w2.alloc (.cells y.cells.toArray 47)) := (Keeps.refl [] w2).alloc _
        have RY := hid (range_new w2 y.cells 47)
        have DY := hid (DA.out.keep (k2.trans KY) (by simp))
        have K3 := hid (KA.out.trans (k2.trans KY))
        have H3 := hid (HA.out.later (k2.trans KY))
        have HS3 := hid (show w.heap.size < (w2.alloc (.cells y.cells.toArray 47)).heap.size by have := HSZ.out; have := (k2.trans KY).size; omega)
        clear k2 KY
        go_wp2_with (first | go_big_skip | (refine wpList_is rfl _ _ (exec_alloc 47 pZ.cells.toArray iPtr2 rfl) ?_) | (refine wpList_noval rfl _ (exec_storeNew 47 _ _ rfl w2 pZ.cells.toArray y.cells.toArray rfl rfl rfl iPtr2 rfl (cells_one _)) ?_) | (refine wpList_isW rfl _ _ (exec_load _ _ _ _ rfl rfl (loadPt_run _ w2.heap.size 0 y RY.out)) ?_) | (refine wpList_isW rfl _ _ (exec_buildPtZ rfl) ?_) | (refine wpList_isW rfl (.bool false) _ ((exec_eqPts _ _ _ y pZ rfl rfl rfl).trans (by rw [Z2.out])) ?_) | (refine wpList_isW rfl _ _ (exec_load _ _ _ _ rfl rfl (loadPt_run _ w.heap.size (0 + 9) x.o DY.out.o)) ?_) | (refine wpList_isW rfl (.bool false) _ ((exec_neqPts _ _ _ y x.o rfl rfl rfl).trans (by rw [EO.out]; rfl)) ?_) | (refine wpList_isW rfl _ _ (exec_load _ _ _ _ rfl rfl (loadPt_run _ w.heap.size (0 + 4) x.t DY.out.t)) ?_) | fail)
        refine (rMayPtr_any _ x.t).mono ?_
        rintro e w4 ⟨rfl, k4⟩
        have K4 := hid (K3.out.trans k4)
        clear k4
        rw [MT.out]
        go_wp2_with fail
        go_ret
        exact rch_no H.out HM.out K4.out
      | true =>
        have MT := hid hmt
        have HMK := hid (show mayD s x = (x.t.k == x.o.k) by rw [← HRE.out, HR.out, hmt, ZO.out, EO.out]; rfl)
        have EYO := hid (show y.k = x.o.k by rw [eqP_is.1 EO.out])
        clear hmt
        cases hkk : (x.t.k == x.o.k) with
        | false =>
          have HKK := hid hkk
          have kf : (x.t.k != y.k) = true := by rw [EYO.out]; unfold bne; rw [hkk]; rfl
          clear hkk
          go_enter Try.func53, Try.ntmps53
          go_wp2_with (first | (refine wpList_is rfl _ _ (exec_box 49 _ x.cells.toArray rfl rfl) ?_) | fail)
          refine (rAt_any11 HA.out x.b).mono ?_
          rintro e w2 ⟨rfl, k2⟩
          rw [← HY.out]
          have KY : Keeps [] w2 (w2.alloc (.cells y.cells.toArray 47)) := (Keeps.refl [] w2).alloc _
          have RY := hid (range_new w2 y.cells 47)
          have DY := hid (DA.out.keep (k2.trans KY) (by simp))
          have K3 := hid (KA.out.trans (k2.trans KY))
          have H3 := hid (HA.out.later (k2.trans KY))
          have HS3 := hid (show w.heap.size < (w2.alloc (.cells y.cells.toArray 47)).heap.size by have := HSZ.out; have := (k2.trans KY).size; omega)
          clear k2 KY
          go_wp2_with (first | go_big_skip | (refine wpList_is rfl _ _ (exec_alloc 47 pZ.cells.toArray iPtr2 rfl) ?_) | (refine wpList_noval rfl _ (exec_storeNew 47 _ _ rfl w2 pZ.cells.toArray y.cells.toArray rfl rfl rfl iPtr2 rfl (cells_one _)) ?_) | (refine wpList_isW rfl _ _ (exec_load _ _ _ _ rfl rfl (loadPt_run _ w2.heap.size 0 y RY.out)) ?_) | (refine wpList_isW rfl _ _ (exec_buildPtZ rfl) ?_) | (refine wpList_isW rfl (.bool false) _ ((exec_eqPts _ _ _ y pZ rfl rfl rfl).trans (by rw [Z2.out])) ?_) | (refine wpList_isW rfl _ _ (exec_load _ _ _ _ rfl rfl (loadPt_run _ w.heap.size (0 + 9) x.o DY.out.o)) ?_) | (refine wpList_isW rfl (.bool false) _ ((exec_neqPts _ _ _ y x.o rfl rfl rfl).trans (by rw [EO.out]; rfl)) ?_) | (refine wpList_isW rfl _ _ (exec_load _ _ _ _ rfl rfl (loadPt_run _ w.heap.size (0 + 4) x.t DY.out.t)) ?_) | fail)
          refine (rMayPtr_any _ x.t).mono ?_
          rintro e w4 ⟨rfl, k4⟩
          have K4 := hid (K3.out.trans k4)
          have R4 := hid (H3.out.later k4)
          have D4 := hid (DY.out.keep k4 (by simp))
          have HS4 := hid (show w.heap.size < w4.heap.size by have := HS3.out; have := k4.size; omega)
          have dk := (range_at D4.out.t).2.2.2.2
          have yk := (range_at (range_keep RY.out k4 (by simp))).2.2.2.2
          simp only [Nat.zero_add, Nat.reduceAdd] at dk yk
          clear k4
          rw [MT.out]
          go_wp2_with fail
          go_ret
          exact rch_no H.out (by rw [HMK.out, HKK.out]) K4.out
        | true =>
          have HKK := hid hkk
          have kf : (x.t.k != y.k) = false := by rw [EYO.out]; unfold bne; rw [hkk]; rfl
          clear hkk
          have hat : atB s.L x.b ≠ pZ := fun e => by rw [← HY.out] at e; have := ZY.out; rw [e] at this; exact absurd this (by decide)
          obtain ⟨b0, b1⟩ := atB_mem hat
          obtain ⟨k, hk⟩ : ∃ k : Nat, x.b = (k : Int) := ⟨x.b.toNat, by omega⟩
          have HKB := hid (show x.b.toNat = k by omega)
          have HKL := hid (show k < s.L.length by omega)
          have hk64 : k < 64 := by have := HG.out.few; omega
          have HK := hid hk
          clear hat b0 b1 hk
          go_enter Try.func53, Try.ntmps53
          go_wp2_with (first | (refine wpList_is rfl _ _ (exec_box 49 _ x.cells.toArray rfl rfl) ?_) | fail)
          refine (rAt_any11 HA.out x.b).mono ?_
          rintro e w2 ⟨rfl, k2⟩
          rw [← HY.out]
          have KY : Keeps [] w2 (w2.alloc (.cells y.cells.toArray 47)) := (Keeps.refl [] w2).alloc _
          have RY := hid (range_new w2 y.cells 47)
          have DY := hid (DA.out.keep (k2.trans KY) (by simp))
          have K3 := hid (KA.out.trans (k2.trans KY))
          have H3 := hid (HA.out.later (k2.trans KY))
          have HS3 := hid (show w.heap.size < (w2.alloc (.cells y.cells.toArray 47)).heap.size by have := HSZ.out; have := (k2.trans KY).size; omega)
          clear k2 KY
          go_wp2_with (first | go_big_skip | (refine wpList_is rfl _ _ (exec_alloc 47 pZ.cells.toArray iPtr2 rfl) ?_) | (refine wpList_noval rfl _ (exec_storeNew 47 _ _ rfl w2 pZ.cells.toArray y.cells.toArray rfl rfl rfl iPtr2 rfl (cells_one _)) ?_) | (refine wpList_isW rfl _ _ (exec_load _ _ _ _ rfl rfl (loadPt_run _ w2.heap.size 0 y RY.out)) ?_) | (refine wpList_isW rfl _ _ (exec_buildPtZ rfl) ?_) | (refine wpList_isW rfl (.bool false) _ ((exec_eqPts _ _ _ y pZ rfl rfl rfl).trans (by rw [Z2.out])) ?_) | (refine wpList_isW rfl _ _ (exec_load _ _ _ _ rfl rfl (loadPt_run _ w.heap.size (0 + 9) x.o DY.out.o)) ?_) | (refine wpList_isW rfl (.bool false) _ ((exec_neqPts _ _ _ y x.o rfl rfl rfl).trans (by rw [EO.out]; rfl)) ?_) | (refine wpList_isW rfl _ _ (exec_load _ _ _ _ rfl rfl (loadPt_run _ w.heap.size (0 + 4) x.t DY.out.t)) ?_) | fail)
          refine (rMayPtr_any _ x.t).mono ?_
          rintro e w4 ⟨rfl, k4⟩
          have K4 := hid (K3.out.trans k4)
          have R4 := hid (H3.out.later k4)
          have D4 := hid (DY.out.keep k4 (by simp))
          have HS4 := hid (show w.heap.size < w4.heap.size by have := HS3.out; have := k4.size; omega)
          have dk := (range_at D4.out.t).2.2.2.2
          have yk := (range_at (range_keep RY.out k4 (by simp))).2.2.2.2
          simp only [Nat.zero_add, Nat.reduceAdd] at dk yk
          clear k4
          rw [MT.out]
          go_wp2_with fail
          obtain ⟨g, cap, cur, hb4, hgb, hfit, hgF, hgq, _⟩ := rk_point (w' := w4) R4.out k HKL.out x.t
          obtain ⟨c0, c1, f0, f1⟩ := two_cells hb4
          have hkn : (k : Int) < (s.L.length : Int) := by have := HKL.out; omega
          clear dk yk kf
          refine wp_region_any (by kernel_rfl) (wpAny_of_late (late := [9]) (S := KpS [] w4.heap.size w4.drew) _ _ _ _ ?_)
          change wpAnyT _ _ _ _ _ _ _ _ _ w4.drew
          have cQ : ∀ W1, KpS [] w4.heap.size w4.drew W1 → W1.cell? ⟨q, 1, none⟩ = some (.slice (some ⟨g, 0, none⟩) s.L.length cap) := fun W1 h => h.cell (by rw [World.cell?_drew]; exact c1) (lt_of_block hb4) (by simp)
          have cD : ∀ W1, KpS [] w4.heap.size w4.drew W1 → DlAt W1 w.heap.size 0 x := fun W1 h => (D4.out.keep ((Keeps.refl [] w4).drew) (by simp)).kp h HS4.out (by simp)
          refine late_take (i := 0) (v := .pointer (some ⟨q, 0, none⟩)) rfl (by kernel_rfl) (by kernel_rfl) (by kernel_rfl) (by kernel_rfl) (by kernel_rfl) (fun _ _ _ h => h) rfl (fun W1 hW1 => rfl) (KpS.refl _ _ _) ?_
          simp only [Act.put, List.setIfInBounds_toArray, List.set_cons_zero, List.set_cons_succ]
          refine late_take (i := 1) (v := .pointer (some ⟨q, 0, none⟩)) rfl (by kernel_rfl) (by kernel_rfl) (by kernel_rfl) (by kernel_rfl) (by kernel_rfl) (fun _ _ _ h => h) rfl (fun W1 hW1 => by go_simp) (KpS.refl _ _ _) ?_
          simp only [Act.put, List.setIfInBounds_toArray, List.set_cons_zero, List.set_cons_succ]
          refine late_take (i := 2) (v := .pointer (some ⟨q, 1, none⟩)) rfl (by kernel_rfl) (by kernel_rfl) (by kernel_rfl) (by kernel_rfl) (by kernel_rfl) (fun _ _ _ h => h) rfl (fun W1 hW1 => by go_simp) (KpS.refl _ _ _) ?_
          simp only [Act.put, List.setIfInBounds_toArray, List.set_cons_zero, List.set_cons_succ]
          refine late_take (i := 3) (v := .slice (some ⟨g, 0, none⟩) s.L.length cap) rfl (by kernel_rfl) (by kernel_rfl) (by kernel_rfl) (by kernel_rfl) (by kernel_rfl) (fun _ _ _ h => h) rfl (fun W1 hW1 => exec_load _ _ _ _ rfl rfl (run_loadCell W1 _ _ _ (cQ W1 hW1) (agg_no _ (by kernel_rfl)))) (KpS.refl _ _ _) ?_
          simp only [Act.put, List.setIfInBounds_toArray, List.set_cons_zero, List.set_cons_succ]
          refine late_take (i := 4) (v := .pointer (some ⟨w.heap.size, 2, none⟩)) rfl (by kernel_rfl) (by kernel_rfl) (by kernel_rfl) (by kernel_rfl) (by kernel_rfl) (fun _ _ _ h => h) rfl (fun W1 hW1 => by go_simp) (KpS.refl _ _ _) ?_
          simp only [Act.put, List.setIfInBounds_toArray, List.set_cons_zero, List.set_cons_succ]
          refine late_take (i := 5) (v := .int .i64 (k : Int)) rfl (by kernel_rfl) (by kernel_rfl) (by kernel_rfl) (by kernel_rfl) (by kernel_rfl) (fun _ _ _ h => h) rfl (fun W1 hW1 => exec_load _ _ _ _ rfl rfl (run_loadCell W1 _ _ _ (by have := (cD W1 hW1).c2; rw [HK.out] at this; simpa using this) (agg_no _ (by kernel_rfl)))) (KpS.refl _ _ _) ?_
          simp only [Act.put, List.setIfInBounds_toArray, List.set_cons_zero, List.set_cons_succ]
          refine late_take (i := 6) (v := .pointer (some ⟨w.heap.size, 4, none⟩)) rfl (by kernel_rfl) (by kernel_rfl) (by kernel_rfl) (by kernel_rfl) (by kernel_rfl) (fun _ _ _ h => h) rfl (fun W1 hW1 => by go_simp) (KpS.refl _ _ _) ?_
          simp only [Act.put, List.setIfInBounds_toArray, List.set_cons_zero, List.set_cons_succ]
          refine late_take (i := 7) (v := ptV x.t) rfl (by kernel_rfl) (by kernel_rfl) (by kernel_rfl) (by kernel_rfl) (by kernel_rfl) (fun _ _ _ h => h) rfl (fun W1 hW1 => exec_load _ _ _ _ rfl rfl (loadPt_run W1 w.heap.size 4 x.t (by have := (cD W1 hW1).t; simpa using this))) (KpS.refl _ _ _) ?_
          simp only [Act.put, List.setIfInBounds_toArray, List.set_cons_zero, List.set_cons_succ]
          refine late_take (i := 8) (v := .pointer (some ⟨g, k * 5, none⟩)) rfl (by kernel_rfl) (by kernel_rfl) (by kernel_rfl) (by kernel_rfl) (by kernel_rfl) (fun _ _ _ h => h) rfl (fun W1 hW1 => by go_simp) (KpS.refl _ _ _) ?_
          simp only [Act.put, List.setIfInBounds_toArray, List.set_cons_zero, List.set_cons_succ]
          have hbD : w4.drew.heap[g]? = some (.cells cur 47 (0, 0)) := hgb
          obtain ⟨s1, s2⟩ := setRow_keepsP (cs := (cur.toList.take (k * 5) ++ x.t.cells ++ cur.toList.drop (k * 5 + 5)).toArray) hbD
          refine late_do (i := 9) (by kernel_rfl) rfl rfl (wp_stored (exec_storePtAt _ _ rfl g (k * 5) rfl cur hbD hfit x.t rfl) ⟨Or.inl rfl, ?_⟩)
          simp only [Act.put]
          refine wpAnyT_done (by kernel_rfl) ?_ _
          obtain ⟨g', cap', cur', hb4', hgb', hfit', hgF', hgq', hset⟩ := rk_point (w' := w4.drew.setRow g (cur.toList.take (k * 5) ++ x.t.cells ++ cur.toList.drop (k * 5 + 5)).toArray) R4.out k HKL.out x.t
          rw [hb4] at hb4'
          injection hb4' with e
          injection e with e _ _
          have e' := congrArg (fun z : Array Value => z[1]?) e
          simp at e'
          obtain ⟨rfl, _⟩ := e'
          rw [hgb] at hgb'
          injection hgb' with e
          injection e with e _ _
          subst e
          have R5 := hid (hset s1 (((Keeps.refl [g] w4).drew).trans s2))
          have K5 := hid ((K4.out.drew.mono (S' := F) (by simp)).trans' s2 (fun i hi hm => by
            simp at hm
            subst hm
            exact hgF))
          clear cQ cD hbD s1 s2 hset hb4 hgb hfit hgF hgq c0 c1 f0 f1
          generalize w4.drew.setRow g (cur.toList.take (k * 5) ++ x.t.cells ++ cur.toList.drop (k * 5 + 5)).toArray = w5 at R5 K5 ⊢
          go_wp2_with fail
          go_ret
          refine rch_yes (by rw [HMK.out, HKK.out]) (F' := F) ?_ K5.out (fun b hb => Or.inl hb)
          rw [HD.out (by rw [HMK.out, HKK.out]), HKB.out]
          exact R5.out
end Go.Proofs.Ytamcllcjondcpaa


/- blocks: the reference's change, a kind. -/
namespace Go.Proofs.Ytamcllcjondcpaa
open Go.RowKit Go.Shelf
set_option maxRecDepth 100000
set_option linter.unusedSimpArgs false

set_option maxHeartbeats 12800000 in
theorem rChangeNo_any {w : World} {q : Nat} {F : List Nat} {s : Bk} (h : RkAt w q F s) (hg : GoodB s) (x : Dl) (h1 : ¬ x.d = 1) (h2 : ¬ x.d = 2) (h3 : ¬ x.d = 3) : Calls Try.prog 53 #[.pointer (some ⟨q, 0, none⟩), dlV x] w (RchPost w q F s x) := by
  have H := hid h
  have HG := hid hg
  have ka : Keeps [] w (w.alloc (.cells x.cells.toArray 49)) := (Keeps.refl [] w).alloc _
  have HA := hid (h.later ka)
  have RA := hid (range_new w x.cells 49)
  have DA := hid (dl_range RA.out)
  have KA := hid ka
  have HSZ := hid (show w.heap.size < (w.alloc (.cells x.cells.toArray 49)).heap.size by simp)
  have HFW := hid h.lt
  have d0 := DA.out.c0
  have d2 := DA.out.c2
  have d3 := DA.out.c3
  simp only [Nat.zero_add] at d2 d3
  obtain ⟨r, hr⟩ : ∃ r, r = mayD s x := ⟨_, rfl⟩
  unfold mayD at hr
  have HR := hid hr
  have HRE := hid (show r = mayD s x by rw [hr]; rfl)
  clear h hg ka hr
  have e1 : (x.d == 1) = false := by simpa using h1
  have e2 : (x.d == 2) = false := by simpa using h2
  have e3 : (x.d == 3) = false := by simpa using h3
  rw [if_neg h1, if_neg h2, if_neg h3] at HR
  clear h1 h2 h3
  go_enter Try.func53, Try.ntmps53
  go_wp2_with (first | (refine wpList_is rfl _ _ (exec_box 49 _ x.cells.toArray rfl rfl) ?_) | fail)
  go_ret
  exact rch_no H.out (by rw [← HRE.out, HR.out]) KA.out

theorem rChange_any {w : World} {q : Nat} {F : List Nat} {s : Bk} (h : RkAt w q F s) (hg : GoodB s) (x : Dl) : Calls Try.prog 53 #[.pointer (some ⟨q, 0, none⟩), dlV x] w (RchPost w q F s x) := by
  by_cases h1 : x.d = 1
  · exact rChangePut_any h hg x h1
  · by_cases h2 : x.d = 2
    · exact rChangeCut_any h hg x h1 h2
    · by_cases h3 : x.d = 3
      · exact rChangeMove_any h hg x h1 h2 h3
      · exact rChangeNo_any h hg x h1 h2 h3
end Go.Proofs.Ytamcllcjondcpaa
