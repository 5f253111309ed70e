/- BkJ, BkK. -/
import Derived.Test.YtcfmonlgpccndaaDoorPkG23
import Derived.Test.YtcfmonlgpccndaaDoorPkG12
/- blocks: Apply. -/
namespace Go.Proofs.YtcfmonlgpccndaaDoor
open Go.RowKit Go.Shelf
set_option maxRecDepth 100000
set_option linter.unusedSimpArgs false

def goneD (s : Bk) (x : Dl) : List Pt := if mayD s x = true then goneL s.L (doD s x).L else []
def ApplyPost (w : World) (M : List Nat) (q : Nat) (s : Bk) (x : Dl) (e : Ending) (w' : World) : Prop :=
  ∃ a c, e = .returned (.tuple #[.slice a (goneD s x).length c, .bool (mayD s x)]) ∧ OwnP w' w.heap.size M (.slice a (goneD s x).length c) (goneD s x) ∧ BkAt w' M q (stepD s x) ∧ Keeps [q] w w'
/-- What stands behind what was changed: gone. -/
theorem apply_end {w wa wb : World} {M : List Nat} {q : Nat} {s : Bk} {x : Dl} (h : BkAt w M q s) (hM : ∀ b ∈ M, b < w.heap.size) (hm : mayD s x = true) {u : Value} (k : Keeps [q] w wa) (hb : wa.heap[q]? = some (.cells #[.bool true, .int .i64 (doD s x).sz, u] 76 (0, 0))) (hu : PtsAt wa M u (doD s x).L)
    {a : Option Addr} {c : Nat} (o : OwnP wb wa.heap.size M (.slice a (goneL s.L (doD s x).L).length c) (goneL s.L (doD s x).L)) (k2 : Keeps [] wa wb) :
    ApplyPost w M q s x (.returned (.tuple #[.slice a (goneL s.L (doD s x).L).length c, .bool true])) wb := by
  have e1 : goneD s x = goneL s.L (doD s x).L := by unfold goneD; rw [if_pos hm]
  have e2 : stepD s x = doD s x := by unfold stepD; rw [if_pos hm]
  refine ⟨a, c, by rw [e1, hm], ?_, ?_, k.trans (k2.mono (by simp))⟩
  · rw [e1]
    refine ⟨?_, hM⟩
    have := o.row
    rcases this.2 with ⟨e, h0⟩ | ⟨g, cap, cur, e, hB, r⟩
    · exact ⟨this.1, Or.inl ⟨e, h0⟩⟩
    · exact ⟨this.1, Or.inr ⟨g, cap, cur, e, Nat.le_trans k.size hB, r⟩⟩
  · rw [e2]
    exact ⟨⟨u, (k2.block q (lt_of_block hb) (by simp)).trans hb, hu.later k2⟩, h.mem, h.good.step x hm⟩

set_option maxHeartbeats 6400000 in
theorem zApply_any {w : World} {M : List Nat} {q : Nat} {s : Bk} (h : BkAt w M q s) (hM : ∀ b ∈ M, b < w.heap.size) (x : Dl) : Calls Tryd.prog 19 #[.pointer (some ⟨q, 0, none⟩), dlV x] w (ApplyPost w M q s x) := by
  have H := hid h
  have HM := hid hM
  have ka : Keeps [] w (w.alloc (.cells x.cells.toArray 38)) := (Keeps.refl [] w).alloc _
  have HA := hid (h.later ka)
  have RA := hid (range_new w x.cells 38)
  have KA := hid ka
  have hz : (w.alloc (.cells x.cells.toArray 38)).heap.size = w.heap.size + 1 := by simp
  have HZ := hid hz
  have hqw := h.lt
  have HQ := hid h.mem
  clear ka hz h hM
  cases hm : mayD s x with
  | false =>
    have E := hid hm
    clear hm
    go_enter Tryd.func19, Tryd.ntmps19
    go_wp2_with (first | (refine wpList_is rfl _ _ (exec_box 38 _ x.cells.toArray rfl rfl) ?_) | fail)
    refine (zMade_any HA.out).mono ?_
    rintro e _ ⟨rfl, rfl⟩
    go_wp2_with (first | (refine wpList_isW rfl _ _ (exec_load _ _ _ _ rfl rfl (loadDl_run _ w.heap.size 0 x RA.out)) ?_) | fail)
    refine (zMayD_any HA.out x).mono ?_
    rintro e w2 ⟨rfl, k2⟩
    have K2 := hid (KA.out.trans k2)
    clear k2
    rw [E.out]
    go_wp2_with fail
    go_ret2
    have e1 : goneD s x = [] := by unfold goneD; rw [if_neg (by rw [E.out]; simp)]
    have e2 : stepD s x = s := by unfold stepD; rw [if_neg (by rw [E.out]; simp)]
    refine ⟨none, 0, by rw [e1, E.out]; rfl, ?_, ?_, K2.out.mono (by simp)⟩
    · rw [e1]; exact OwnP.nil _ _ _ HM.out
    · rw [e2]; exact H.out.later K2.out
  | true =>
    have E := hid hm
    have DS : Hid (GoodB (doD s x)) := hid (H.out.good.step x hm)
    have hm' := hm
    unfold mayD at hm'
    by_cases h1 : x.d = 1
    · have e1 : (x.d == 1) = true := by simpa using h1
      rw [if_pos h1] at hm'
      simp only [Bool.and_eq_true, btw_is] at hm'
      obtain ⟨⟨⟨a1, a2⟩, a3, a4⟩, a5⟩ := hm'
      have HD := hid (show doD s x = ⟨max s.sz x.s, (fitL s.L (cnt (max s.sz x.s))).set x.b.toNat x.t⟩ by unfold doD; rw [if_pos h1])
      have hlo := H.out.good.lo
      have hhi := H.out.good.hi
      obtain ⟨k, hk⟩ : ∃ k : Nat, x.b = (k : Int) := ⟨x.b.toNat, by omega⟩
      obtain ⟨n, hn⟩ : ∃ n : Int, n = max s.sz x.s := ⟨_, rfl⟩
      have hn0 : 0 ≤ n ∧ n ≤ 4096 := by omega
      have HKL := hid (show k < (fitL s.L (cnt n)).length by rw [fitL_len]; unfold cnt; omega)
      have HKB := hid (show x.b.toNat = k by omega)
      have HN0 := hid hn0
      clear a1 a2 a3 a4 a5 hlo hhi hm h1 hn0
      go_enter Tryd.func19, Tryd.ntmps19
      go_wp2_with (first | (refine wpList_is rfl _ _ (exec_box 38 _ x.cells.toArray rfl rfl) ?_) | fail)
      refine (zMade_any HA.out).mono ?_
      rintro e _ ⟨rfl, rfl⟩
      go_wp2_with (first | (refine wpList_isW rfl _ _ (exec_load _ _ _ _ rfl rfl (loadDl_run _ w.heap.size 0 x RA.out)) ?_) | fail)
      refine (zMayD_any HA.out x).mono ?_
      rintro e w2 ⟨rfl, k2⟩
      have D2 := hid (dl_range (range_keep RA.out k2 (by simp)))
      have H2 := hid (HA.out.later k2)
      have K2 := hid (KA.out.trans k2)
      have Z2 : Hid (w.heap.size + 1 ≤ w2.heap.size) := hid (by have := k2.size; have := HZ.out; omega)
      clear k2
      rw [E.out]
      obtain ⟨ra, rc, c0, c1, c2, hv⟩ := H2.out.cells
      have HV := hid hv
      have d0 := D2.out.c0
      clear hv
      go_wp2_with fail
      clear d0 e1 c0 c2
      refine wp_region_any (by kernel_rfl) (wpAny_of_late (late := [8]) (S := KpS [] w2.heap.size w2.drew) _ _ _ _ ?_)
      change wpAnyT _ _ _ _ _ _ _ _ _ w2.drew
      have cQ : ∀ W1, KpS [] w2.heap.size w2.drew W1 → W1.cell? ⟨q, 1, none⟩ = some (.int .i64 s.sz) := fun W1 h => h.cell (by rw [World.cell?_drew]; exact c1) H2.out.lt (by simp)
      have cD : ∀ W1, KpS [] w2.heap.size w2.drew W1 → DlAt W1 w.heap.size 0 x := fun W1 h => (D2.out.keep ((Keeps.refl [] w2).drew) (by simp)).kp h (by have := Z2.out; omega) (by simp)
      refine late_take (i := 0) (v := .pointer (some ⟨q, 0, none⟩)) rfl (by kernel_rfl) (by kernel_rfl) (by kernel_rfl) (by kernel_rfl) (by kernel_rfl) (fun _ _ _ h => h) rfl (fun W1 hW1 => rfl) (KpS.refl _ _ _) ?_
      simp only [Act.put, List.setIfInBounds_toArray, List.set_cons_zero, List.set_cons_succ]
      refine late_take (i := 1) (v := .pointer (some ⟨q, 0, none⟩)) rfl (by kernel_rfl) (by kernel_rfl) (by kernel_rfl) (by kernel_rfl) (by kernel_rfl) (fun _ _ _ h => h) rfl (fun W1 hW1 => rfl) (KpS.refl _ _ _) ?_
      simp only [Act.put, List.setIfInBounds_toArray, List.set_cons_zero, List.set_cons_succ]
      refine late_take (i := 2) (v := .pointer (some ⟨q, 0, none⟩)) rfl (by kernel_rfl) (by kernel_rfl) (by kernel_rfl) (by kernel_rfl) (by kernel_rfl) (fun _ _ _ h => h) rfl (fun W1 hW1 => by go_simp) (KpS.refl _ _ _) ?_
      simp only [Act.put, List.setIfInBounds_toArray, List.set_cons_zero, List.set_cons_succ]
      refine late_take (i := 3) (v := .pointer (some ⟨q, 1, none⟩)) rfl (by kernel_rfl) (by kernel_rfl) (by kernel_rfl) (by kernel_rfl) (by kernel_rfl) (fun _ _ _ h => h) rfl (fun W1 hW1 => by go_simp) (KpS.refl _ _ _) ?_
      simp only [Act.put, List.setIfInBounds_toArray, List.set_cons_zero, List.set_cons_succ]
      refine late_take (i := 4) (v := .int .i64 s.sz) rfl (by kernel_rfl) (by kernel_rfl) (by kernel_rfl) (by kernel_rfl) (by kernel_rfl) (fun _ _ _ h => h) rfl (fun W1 hW1 => exec_load _ _ _ _ rfl rfl (run_loadCell W1 _ _ _ (cQ W1 hW1) (agg_no _ (by kernel_rfl)))) (KpS.refl _ _ _) ?_
      simp only [Act.put, List.setIfInBounds_toArray, List.set_cons_zero, List.set_cons_succ]
      refine late_take (i := 5) (v := .pointer (some ⟨w.heap.size, 3, none⟩)) rfl (by kernel_rfl) (by kernel_rfl) (by kernel_rfl) (by kernel_rfl) (by kernel_rfl) (fun _ _ _ h => h) rfl (fun W1 hW1 => by go_simp) (KpS.refl _ _ _) ?_
      simp only [Act.put, List.setIfInBounds_toArray, List.set_cons_zero, List.set_cons_succ]
      refine late_take (i := 6) (v := .int .i64 x.s) rfl (by kernel_rfl) (by kernel_rfl) (by kernel_rfl) (by kernel_rfl) (by kernel_rfl) (fun _ _ _ h => h) rfl (fun W1 hW1 => exec_load _ _ _ _ rfl rfl (run_loadCell W1 _ _ _ (by have := (cD W1 hW1).c3; simpa using this) (agg_no _ (by kernel_rfl)))) (KpS.refl _ _ _) ?_
      simp only [Act.put, List.setIfInBounds_toArray, List.set_cons_zero, List.set_cons_succ]
      refine late_take (i := 7) (v := .int .i64 n) rfl (by kernel_rfl) (by kernel_rfl) (by kernel_rfl) (by kernel_rfl) (by kernel_rfl) (fun _ _ _ h => h) rfl (fun W1 hW1 => by rw [hn]; go_simp) (KpS.refl _ _ _) ?_
      simp only [Act.put, List.setIfInBounds_toArray, List.set_cons_zero, List.set_cons_succ]
      have H2d := H2.out.later ((Keeps.refl [] w2).drew)
      obtain ⟨⟨u2, hb2, hu2⟩, _, _⟩ := id H2d
      refine late_do (i := 8) (by kernel_rfl) rfl rfl (wp_enter (f := 35) (args := #[.pointer (some ⟨q, 0, none⟩), .int .i64 n]) (by go_simp) (zResize_any hb2 hu2 HQ.out (fun b hb => by have := HM.out b hb; have := Z2.out; simp; omega) H.out.good.few n HN0.out.1 HN0.out.2) ?_)
      rintro e w3 ⟨rfl, ⟨u3, hb3, hu3⟩, k3⟩
      refine ⟨_, rfl, Or.inl rfl, ?_⟩
      simp only [Act.put, List.setIfInBounds_toArray, List.set_cons_zero, List.set_cons_succ]
      refine wpAnyT_done (by kernel_rfl) ?_ _
      have K3 := hid ((K2.out.mono (S' := [q]) (by simp)).drew.trans k3)
      have L3 := hid (((Keeps.refl [q] w2).drew).trans k3)
      have D3 := hid (D2.out.keep ((Keeps.refl [q] w2).drew.trans k3) (by simp; omega))
      have B3 := hid hb3
      have U3 := hid hu3
      have Z3 : Hid (w.heap.size + 1 ≤ w3.heap.size) := hid (by have := k3.size; have e : w2.drew.heap.size = w2.heap.size := rfl; have := Z2.out; omega)
      have f2 := D3.out.c2
      simp only [Nat.zero_add] at f2
      rw [hk] at f2
      clear cQ cD c1 hb2 hu2 H2d hb3 hu3 k3 hk
      go_wp2_with (first | (refine wpList_isW rfl _ _ (exec_load _ _ _ _ rfl rfl (loadPt_run _ w.heap.size (0 + 4) x.t D3.out.t)) ?_) | fail)
      refine (zPoint_any B3.out U3.out HQ.out (fun b hb => by have := HM.out b hb; have := Z3.out; omega) (by rw [fitL_len]; exact cnt_le HN0.out.2) k HKL.out x.t).mono ?_
      rintro e w4 ⟨rfl, ⟨u4, hb4, hu4⟩, k4⟩
      have K4 := hid (K3.out.trans k4)
      have L4 := hid (L3.out.trans k4)
      obtain ⟨L, hL⟩ : ∃ L, L = (fitL s.L (cnt n)).set k x.t := ⟨_, rfl⟩
      have hb4' : w4.heap[q]? = some (.cells #[.bool true, .int .i64 n, u4] 76 (0, 0)) := hb4
      have hu4' : PtsAt w4 M u4 L := by rw [hL]; exact hu4
      have HL := hid (show L = (doD s x).L by rw [HD.out, hL, hn, HKB.out])
      have HN := hid (show n = (doD s x).sz by rw [HD.out, hn])
      have HLL := hid (show L.length ≤ 64 by rw [HL.out]; exact DS.out.few)
      have B4 := hid hb4'
      have U4 := hid hu4'
      obtain ⟨ra4, rc4, rfl⟩ := hu4'.shape
      have g2 := (block_cells3 hb4').2.2
      clear hb4 hu4 k4 f2 hL hn hb4' hu4'
      go_wp2_with fail
      refine (zGone_any w4 M (fun b hb => by have := HM.out b hb; have := K4.out.size; omega) _ _ s.L L (HV.out.keep L4.out (by simpa using HQ.out)) U4.out (by have := H.out.good.few; omega) (by have := HLL.out; omega)).mono ?_
      rintro e w5 ⟨a5, c5, rfl, o5, k5⟩
      have O5 := hid o5
      have K5 := hid k5
      clear o5 k5 g2
      go_wp2_with fail
      go_ret2
      have e9 := HL.out
      rw [e9] at B4 U4 O5 ⊢
      exact apply_end H.out HM.out E.out K4.out (by rw [← HN.out]; exact B4.out) U4.out O5.out K5.out
    · have e1 : (x.d == 1) = false := by simpa using h1
      rw [if_neg h1] at hm'
      by_cases h2 : x.d = 2
      · have e2 : (x.d == 2) = true := by simpa using h2
        rw [if_pos h2, btw_is] at hm'
        obtain ⟨a3, a4⟩ := hm'
        have HD := hid (show doD s x = ⟨x.s, fitL s.L (cnt x.s)⟩ by unfold doD; rw [if_neg h1, if_pos h2])
        have HA3 := hid a3
        have HA4 := hid a4
        clear hm h1 h2 a3 a4
        go_enter Tryd.func19, Tryd.ntmps19
        go_wp2_with (first | (refine wpList_is rfl _ _ (exec_box 38 _ x.cells.toArray rfl rfl) ?_) | fail)
        refine (zMade_any HA.out).mono ?_
        rintro e _ ⟨rfl, rfl⟩
        go_wp2_with (first | (refine wpList_isW rfl _ _ (exec_load _ _ _ _ rfl rfl (loadDl_run _ w.heap.size 0 x RA.out)) ?_) | fail)
        refine (zMayD_any HA.out x).mono ?_
        rintro e w2 ⟨rfl, k2⟩
        have D2 := hid (dl_range (range_keep RA.out k2 (by simp)))
        have H2 := hid (HA.out.later k2)
        have K2 := hid (KA.out.trans k2)
        have Z2 : Hid (w.heap.size + 1 ≤ w2.heap.size) := hid (by have := k2.size; have := HZ.out; omega)
        clear k2
        rw [E.out]
        obtain ⟨⟨u2, hb2, hu2⟩, _, _⟩ := H2.out
        obtain ⟨ra, rc, rfl⟩ := hu2.shape
        have HV := hid hu2
        have B2 := hid hb2
        obtain ⟨c0, c1, c2⟩ := block_cells3 hb2
        have d0 := D2.out.c0
        have d2 := D2.out.c2
        have d3 := D2.out.c3
        simp only [Nat.zero_add] at d2 d3
        clear hu2 hb2 c0 c1
        clear d2
        go_wp2_with fail
        refine (zResize_any B2.out HV.out HQ.out (fun b hb => by have := HM.out b hb; have := Z2.out; omega) H.out.good.few x.s HA3.out HA4.out).mono ?_
        rintro e w4 ⟨rfl, ⟨u4, hb4, hu4⟩, k4⟩
        obtain ⟨L, hL⟩ : ∃ L, L = fitL s.L (cnt x.s) := ⟨_, rfl⟩
        obtain ⟨n, hn⟩ : ∃ n, n = x.s := ⟨_, rfl⟩
        have hb4' : w4.heap[q]? = some (.cells #[.bool true, .int .i64 n, u4] 76 (0, 0)) := by rw [hn]; exact hb4
        have hu4' : PtsAt w4 M u4 L := by rw [hL]; exact hu4
        have HL := hid (show L = (doD s x).L by rw [HD.out, hL])
        have HN := hid (show n = (doD s x).sz by rw [HD.out, hn])
        clear hL hn d3
        have K4 := hid ((K2.out.mono (S' := [q]) (by simp)).trans k4)
        have L4 := hid k4
        have HLL := hid (show L.length ≤ 64 by rw [HL.out]; exact DS.out.few)
        have B4 := hid hb4'
        have U4 := hid hu4'
        obtain ⟨ra4, rc4, rfl⟩ := hu4'.shape
        have g2 := (block_cells3 hb4').2.2
        clear hb4 hu4 k4 hb4' hu4' d0 c2
        go_wp2_with fail
        refine (zGone_any w4 M (fun b hb => by have := HM.out b hb; have := K4.out.size; omega) _ _ s.L L (HV.out.keep L4.out (by simpa using HQ.out)) U4.out (by have := H.out.good.few; omega) (by have := HLL.out; omega)).mono ?_
        rintro e w5 ⟨a5, c5, rfl, o5, k5⟩
        have O5 := hid o5
        have K5 := hid k5
        clear o5 k5 g2
        go_wp2_with fail
        go_ret2
        have e9 := HL.out
        rw [e9] at B4 U4 O5 ⊢
        exact apply_end H.out HM.out E.out K4.out (by rw [← HN.out]; exact B4.out) U4.out O5.out K5.out
      · have e2 : (x.d == 2) = false := by simpa using h2
        rw [if_neg h2] at hm'
        by_cases h3 : x.d = 3
        · have e3 : (x.d == 3) = true := by simpa using h3
          rw [if_pos h3] at hm'
          simp only [Bool.and_eq_true] at hm'
          have HD := hid (show doD s x = ⟨s.sz, s.L.set x.b.toNat x.t⟩ by unfold doD; rw [if_neg h1, if_neg h2])
          have hat : atB s.L x.b ≠ pZ := by
            intro hq
            have h4 := eqP_is.1 hm'.1.1.2
            rw [hq] at h4
            have h5 := hm'.1.1.1
            rw [← h4] at h5
            exact absurd h5 (by decide)
          obtain ⟨b0, b1⟩ := atB_mem hat
          obtain ⟨k, hk⟩ : ∃ k : Nat, x.b = (k : Int) := ⟨x.b.toNat, by omega⟩
          have HKL := hid (show k < s.L.length by omega)
          have HKB := hid (show x.b.toNat = k by omega)
          clear hm h1 h2 h3 hm' hat b0 b1
          go_enter Tryd.func19, Tryd.ntmps19
          go_wp2_with (first | (refine wpList_is rfl _ _ (exec_box 38 _ x.cells.toArray rfl rfl) ?_) | fail)
          refine (zMade_any HA.out).mono ?_
          rintro e _ ⟨rfl, rfl⟩
          go_wp2_with (first | (refine wpList_isW rfl _ _ (exec_load _ _ _ _ rfl rfl (loadDl_run _ w.heap.size 0 x RA.out)) ?_) | fail)
          refine (zMayD_any HA.out x).mono ?_
          rintro e w2 ⟨rfl, k2⟩
          have D2 := hid (dl_range (range_keep RA.out k2 (by simp)))
          have H2 := hid (HA.out.later k2)
          have K2 := hid (KA.out.trans k2)
          have Z2 : Hid (w.heap.size + 1 ≤ w2.heap.size) := hid (by have := k2.size; have := HZ.out; omega)
          clear k2
          rw [E.out]
          obtain ⟨⟨u2, hb2, hu2⟩, _, _⟩ := H2.out
          obtain ⟨ra, rc, rfl⟩ := hu2.shape
          have HV := hid hu2
          have B2 := hid hb2
          obtain ⟨c0, c1, c2⟩ := block_cells3 hb2
          have d0 := D2.out.c0
          have d2 := D2.out.c2
          have d3 := D2.out.c3
          simp only [Nat.zero_add] at d2 d3
          clear hu2 hb2 c0 c1
          clear d3
          rw [hk] at d2
          clear hk
          go_wp2_with (first | (refine wpList_isW rfl _ _ (exec_load _ _ _ _ rfl rfl (loadPt_run _ w.heap.size (0 + 4) x.t D2.out.t)) ?_) | fail)
          refine (zPoint_any B2.out HV.out HQ.out (fun b hb => by have := HM.out b hb; have := Z2.out; omega) H.out.good.few k HKL.out x.t).mono ?_
          rintro e w4 ⟨rfl, ⟨u4, hb4, hu4⟩, k4⟩
          obtain ⟨L, hL⟩ : ∃ L, L = s.L.set k x.t := ⟨_, rfl⟩
          obtain ⟨n, hn⟩ : ∃ n, n = s.sz := ⟨_, rfl⟩
          have hb4' : w4.heap[q]? = some (.cells #[.bool true, .int .i64 n, u4] 76 (0, 0)) := by rw [hn]; exact hb4
          have hu4' : PtsAt w4 M u4 L := by rw [hL]; exact hu4
          have HL := hid (show L = (doD s x).L by rw [HD.out, hL, HKB.out])
          have HN := hid (show n = (doD s x).sz by rw [HD.out, hn])
          clear hL hn d2
          have K4 := hid ((K2.out.mono (S' := [q]) (by simp)).trans k4)
          have L4 := hid k4
          have HLL := hid (show L.length ≤ 64 by rw [HL.out]; exact DS.out.few)
          have B4 := hid hb4'
          have U4 := hid hu4'
          obtain ⟨ra4, rc4, rfl⟩ := hu4'.shape
          have g2 := (block_cells3 hb4').2.2
          clear hb4 hu4 k4 hb4' hu4' d0 c2
          go_wp2_with fail
          refine (zGone_any w4 M (fun b hb => by have := HM.out b hb; have := K4.out.size; omega) _ _ s.L L (HV.out.keep L4.out (by simpa using HQ.out)) U4.out (by have := H.out.good.few; omega) (by have := HLL.out; omega)).mono ?_
          rintro e w5 ⟨a5, c5, rfl, o5, k5⟩
          have O5 := hid o5
          have K5 := hid k5
          clear o5 k5 g2
          go_wp2_with fail
          go_ret2
          have e9 := HL.out
          rw [e9] at B4 U4 O5 ⊢
          exact apply_end H.out HM.out E.out K4.out (by rw [← HN.out]; exact B4.out) U4.out O5.out K5.out
        · rw [if_neg h3] at hm'
          cases hm'
end Go.Proofs.YtcfmonlgpccndaaDoor


/- blocks: New, Clone; the laws' own Ptr, Ptrs, in; deltas are built. -/
namespace Go.Proofs.YtcfmonlgpccndaaDoor
open Go.RowKit Go.Shelf
set_option maxRecDepth 100000
set_option linter.unusedSimpArgs false

theorem buildBk0 (w : World) : (Instr.build 76 #[(0, .bool true)]).run Tryd.prog w = .ok (.agg #[.bool true, .int .i64 0, .slice none 0 0]) w := by kernel_rfl
theorem uBMap : Tryd.prog.underlying 76 = some (.struct (Tryd.prog.fieldsOf 76)) := by kernel_rfl
theorem iBMap : (Tryd.prog.info? 76).map (fun i => (i.zero, i.size)) = some (some (.agg #[.bool false, .int .i64 0, .slice none 0 0]), 3) := by kernel_rfl
theorem zNew_any (w : World) : Calls Tryd.prog 18 #[] w fun e w' => e = .returned (.pointer (some ⟨w.heap.size, 0, none⟩)) ∧ w' = w.alloc (.cells #[.bool true, .int .i64 0, .slice none 0 0] 76) := by
  have B := buildBk0
  go_enter Tryd.func18, Tryd.ntmps18
  go_wp2_with (first | (refine wpList_is rfl _ _ (exec_box 76 _ #[.bool true, .int .i64 0, .slice none 0 0] rfl rfl) ?_) | fail)
  go_ret
  exact ⟨rfl, rfl⟩
theorem bk_new (w : World) (M : List Nat) : BkAt (w.alloc (.cells #[.bool true, .int .i64 0, .slice none 0 0] 76)) (w.heap.size :: M) w.heap.size bk0 :=
  ⟨⟨_, heap_alloc_new w _, PtsAt.nil _ _⟩, by simp, good0⟩
def mkP (c n a k : Int) : Pt := ⟨c, 0, n, a, k⟩
theorem buildStripe2 (c n : Int) (w : World) : (Instr.build 29 #[(0, .int .i64 c), (2, .int .i64 n)]).run Tryd.prog w = .ok (.agg #[.int .i64 c, .int .i64 0, .int .i64 n]) w := by kernel_rfl
theorem buildPtr3 (c l n a k : Int) (w : World) : (Instr.build 36 #[(0, .agg #[.int .i64 c, .int .i64 l, .int .i64 n]), (1, .int .i64 a), (2, .int .i64 k)]).run Tryd.prog w = .ok (.agg #[.int .i64 c, .int .i64 l, .int .i64 n, .int .i64 a, .int .i64 k]) w := by kernel_rfl
theorem buildPut (d i b s : Int) (p : Pt) (w : World) : (Instr.build 38 #[(0, .int .i64 d), (1, .int .i64 i), (2, .int .i64 b), (3, .int .i64 s), (4, ptV p)]).run Tryd.prog w = .ok (dlV ⟨d, i, b, s, p, pZ⟩) w := by kernel_rfl
theorem buildCut (d i s : Int) (w : World) : (Instr.build 38 #[(0, .int .i64 d), (1, .int .i64 i), (3, .int .i64 s)]).run Tryd.prog w = .ok (dlV ⟨d, i, 0, s, pZ, pZ⟩) w := by kernel_rfl
theorem buildMove (d i b : Int) (p o : Pt) (w : World) : (Instr.build 38 #[(0, .int .i64 d), (1, .int .i64 i), (2, .int .i64 b), (5, ptV o), (4, ptV p)]).run Tryd.prog w = .ok (dlV ⟨d, i, b, 0, p, o⟩) w := by kernel_rfl
theorem exec_buildPut {ρ : Operand → Value} {o : Oper} {w : World} (x0 x1 x2 x3 x4 : Operand) (d i b s : Int) (p : Pt) (ho : o.op = .build 38 #[(0, x0), (1, x1), (2, x2), (3, x3), (4, x4)]) (h0 : ρ x0 = .int .i64 d) (h1 : ρ x1 = .int .i64 i) (h2 : ρ x2 = .int .i64 b) (h3 : ρ x3 = .int .i64 s) (h4 : ρ x4 = ptV p) :
    (execOp ρ o).run Tryd.prog w = .ok (.value (dlV ⟨d, i, b, s, p, pZ⟩)) w := by
  simp only [execOp, ho, List.map_toArray, List.map_cons, List.map_nil, h0, h1, h2, h3, h4, Sem.run_bind, buildPut, Result.andThen_ok, Sem.run_pure]
theorem exec_buildCut {ρ : Operand → Value} {o : Oper} {w : World} (x0 x1 x3 : Operand) (d i s : Int) (ho : o.op = .build 38 #[(0, x0), (1, x1), (3, x3)]) (h0 : ρ x0 = .int .i64 d) (h1 : ρ x1 = .int .i64 i) (h3 : ρ x3 = .int .i64 s) :
    (execOp ρ o).run Tryd.prog w = .ok (.value (dlV ⟨d, i, 0, s, pZ, pZ⟩)) w := by
  simp only [execOp, ho, List.map_toArray, List.map_cons, List.map_nil, h0, h1, h3, Sem.run_bind, buildCut, Result.andThen_ok, Sem.run_pure]
theorem exec_buildMove {ρ : Operand → Value} {o : Oper} {w : World} (x0 x1 x2 x5 x4 : Operand) (d i b : Int) (p q : Pt) (ho : o.op = .build 38 #[(0, x0), (1, x1), (2, x2), (5, x5), (4, x4)]) (h0 : ρ x0 = .int .i64 d) (h1 : ρ x1 = .int .i64 i) (h2 : ρ x2 = .int .i64 b) (h5 : ρ x5 = ptV q) (h4 : ρ x4 = ptV p) :
    (execOp ρ o).run Tryd.prog w = .ok (.value (dlV ⟨d, i, b, 0, p, q⟩)) w := by
  simp only [execOp, ho, List.map_toArray, List.map_cons, List.map_nil, h0, h1, h2, h5, h4, Sem.run_bind, buildMove, Result.andThen_ok, Sem.run_pure]
end Go.Proofs.YtcfmonlgpccndaaDoor
