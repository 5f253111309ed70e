/- BkI. -/
import Derived.Test.YtcfmonlgpccndaaDoorPkG22
/- blocks: may. -/
namespace Go.Proofs.YtcfmonlgpccndaaDoor
open Go.RowKit Go.Shelf
set_option maxRecDepth 100000
set_option linter.unusedSimpArgs false

theorem iDelta : (Tryd.prog.info? 38).map (fun i => (i.zero, i.size)) = some (some (dlV ⟨0, 0, 0, 0, pZ, pZ⟩), 14) := by kernel_rfl
theorem uDelta : Tryd.prog.underlying 38 = some (.struct (Tryd.prog.fieldsOf 38)) := by kernel_rfl
theorem sDelta : (Tryd.prog.info? 38).map (·.size) = some 14 := by kernel_rfl
theorem loadDl_run (W : World) (b off : Nat) (x : Dl) (hc : W.rangeAt b off x.cells) : (Instr.loadAt 38 (.pointer (some ⟨b, off, none⟩))).run Tryd.prog W = .ok (dlV x) W :=
  run_loadAt_mid W b off 38 x.cells _ hc uDelta rfl (by rw [sDelta]; rfl)
/-- The parts of a delta in memory. -/
structure DlAt (w : World) (b off : Nat) (x : Dl) : Prop where
  c0 : w.cell? ⟨b, off, none⟩ = some (.int .i64 x.d)
  c1 : w.cell? ⟨b, off + 1, none⟩ = some (.int .i64 x.i)
  c2 : w.cell? ⟨b, off + 2, none⟩ = some (.int .i64 x.b)
  c3 : w.cell? ⟨b, off + 3, none⟩ = some (.int .i64 x.s)
  t : w.rangeAt b (off + 4) x.t.cells
  o : w.rangeAt b (off + 9) x.o.cells
theorem dl_range {w : World} {b off : Nat} {x : Dl} (h : w.rangeAt b off x.cells) : DlAt w b off x :=
  ⟨h 0 _ rfl, h 1 _ rfl, h 2 _ rfl, h 3 _ rfl, fun j v hv => by
    have hj : j < 5 := by have := (List.getElem?_eq_some_iff.1 hv).1; simpa [Pt.cells] using this
    rw [Nat.add_assoc]
    refine h (4 + j) v ?_
    match j, hj, hv with
    | 0, _, hv => exact hv
    | 1, _, hv => exact hv
    | 2, _, hv => exact hv
    | 3, _, hv => exact hv
    | 4, _, hv => exact hv, fun j v hv => by
    have hj : j < 5 := by have := (List.getElem?_eq_some_iff.1 hv).1; simpa [Pt.cells] using this
    rw [Nat.add_assoc]
    refine h (9 + j) v ?_
    match j, hj, hv with
    | 0, _, hv => exact hv
    | 1, _, hv => exact hv
    | 2, _, hv => exact hv
    | 3, _, hv => exact hv
    | 4, _, hv => exact hv⟩
theorem DlAt.keep {w w' : World} {S : List Nat} {b off : Nat} {x : Dl} (h : DlAt w b off x) (k : Keeps S w w') (hs : b ∉ S) : DlAt w' b off x :=
  ⟨k.cell' h.c0 hs, k.cell' h.c1 hs, k.cell' h.c2 hs, k.cell' h.c3 hs, range_keep h.t k hs, range_keep h.o k hs⟩
theorem DlAt.kp {S : List Nat} {n₀ : Nat} {w w' : World} {b off : Nat} {x : Dl} (h : DlAt w b off x) (k : KpS S n₀ w w') (hb : b < n₀) (hs : b ∉ S) : DlAt w' b off x :=
  ⟨k.cell h.c0 hb hs, k.cell h.c1 hb hs, k.cell h.c2 hb hs, k.cell h.c3 hb hs, fun j v hv => k.cell (h.t j v hv) hb hs, fun j v hv => k.cell (h.o j v hv) hb hs⟩
theorem BkAt.kp {n₀ : Nat} {w w' : World} {M : List Nat} {q : Nat} {s : Bk} (h : BkAt w M q s) (k : KpS [] n₀ w w') (hn : w.heap.size ≤ n₀) : BkAt w' M q s :=
  h.later ⟨k.os, k.tape, k.output, k.size, fun i hi hm => k.block i (by omega) hm⟩

def MayPost (w : World) (b : Bool) (e : Ending) (w' : World) : Prop := e = .returned (.bool b) ∧ Keeps [] w w'
set_option maxHeartbeats 6400000 in
theorem zMayD_any {w : World} {M : List Nat} {q : Nat} {s : Bk} (h : BkAt w M q s) (x : Dl) : Calls Tryd.prog 34 #[.pointer (some ⟨q, 0, none⟩), dlV x] w (MayPost w (mayD s x)) := by
  have ka : Keeps [] w (w.alloc (.cells x.cells.toArray 38)) := (Keeps.refl [] w).alloc _
  have HA := hid (h.later ka)
  have DA := hid (dl_range (range_new w x.cells 38))
  have KA := hid ka
  have hz : (w.alloc (.cells x.cells.toArray 38)).heap.size = w.heap.size + 1 := by simp
  have HZ := hid hz
  have c0 := DA.out.c0
  have c2 := DA.out.c2
  have c3 := DA.out.c3
  simp only [Nat.zero_add] at c2 c3
  obtain ⟨r, hr⟩ : ∃ r, r = mayD s x := ⟨_, rfl⟩
  rw [← hr]
  unfold mayD at hr
  have HR := hid hr
  clear h ka hz hr
  by_cases h1 : x.d = 1
  · have e1 : (x.d == 1) = true := by simpa using h1
    rw [if_pos h1] at HR
    clear h1
    cases a1 : btw x.b 0 63 with
    | false =>
      have A1 := hid a1
      clear a1
      go_enter Tryd.func34, Tryd.ntmps34
      go_wp2_with (first | (refine wpList_is rfl _ _ (exec_box 38 _ x.cells.toArray rfl rfl) ?_) | fail)
      refine (bwithin_as _ x.b 0 63 _ A1.out).mono ?_
      rintro e _ ⟨rfl, rfl⟩
      go_wp2_with fail
      go_ret
      exact ⟨by rw [HR.out, A1.out]; rfl, KA.out⟩
    | true =>
      obtain ⟨b1, b2⟩ := btw_is.1 a1
      have A1 := hid a1
      clear a1
      cases a2 : btw x.s (x.b * 64 + 1) 4096 with
      | false =>
        have A2 := hid a2
        clear a2
        go_enter Tryd.func34, Tryd.ntmps34
        go_wp2_with (first | (refine wpList_is rfl _ _ (exec_box 38 _ x.cells.toArray rfl rfl) ?_) | fail)
        refine (bwithin_as _ x.b 0 63 _ A1.out).mono ?_
        rintro e _ ⟨rfl, rfl⟩
        go_wp2_with fail
        refine (bwithin_as _ x.s (x.b * 64 + 1) 4096 _ A2.out).mono ?_
        rintro e _ ⟨rfl, rfl⟩
        go_wp2_with fail
        go_ret
        exact ⟨by rw [HR.out, A1.out, A2.out]; rfl, KA.out⟩
      | true =>
        have A2 := hid a2
        clear a2
        go_enter Tryd.func34, Tryd.ntmps34
        go_wp2_with (first | (refine wpList_is rfl _ _ (exec_box 38 _ x.cells.toArray rfl rfl) ?_) | fail)
        refine (bwithin_as _ x.b 0 63 _ A1.out).mono ?_
        rintro e _ ⟨rfl, rfl⟩
        go_wp2_with fail
        refine (bwithin_as _ x.s (x.b * 64 + 1) 4096 _ A2.out).mono ?_
        rintro e _ ⟨rfl, rfl⟩
        go_wp2_with (first | (refine wpList_isW rfl _ _ (exec_load _ _ _ _ rfl rfl (loadPt_run _ w.heap.size (0 + 4) x.t DA.out.t)) ?_) | fail)
        refine (may11_any _ x.t).mono ?_
        rintro e w2 ⟨rfl, k2⟩
        have K2 := hid (KA.out.trans k2)
        clear k2
        go_wp2_with fail
        go_ret
        exact ⟨by rw [HR.out, A1.out, A2.out]; rfl, K2.out⟩
  · have e1 : (x.d == 1) = false := by simpa using h1
    rw [if_neg h1] at HR
    clear h1
    by_cases h2 : x.d = 2
    · have e2 : (x.d == 2) = true := by simpa using h2
      rw [if_pos h2] at HR
      clear h2
      go_enter Tryd.func34, Tryd.ntmps34
      go_wp2_with (first | (refine wpList_is rfl _ _ (exec_box 38 _ x.cells.toArray rfl rfl) ?_) | fail)
      refine (bwithin_as _ x.s 0 4096 _ rfl).mono ?_
      rintro e _ ⟨rfl, rfl⟩
      go_wp2_with fail
      go_ret
      exact ⟨by rw [HR.out]; rfl, KA.out⟩
    · have e2 : (x.d == 2) = false := by simpa using h2
      rw [if_neg h2] at HR
      clear h2
      by_cases h3 : x.d = 3
      · have e3 : (x.d == 3) = true := by simpa using h3
        rw [if_pos h3] at HR
        clear h3
        cases z : zB x.o with
        | true =>
          have Z := hid z
          clear z
          go_enter Tryd.func34, Tryd.ntmps34
          go_wp2_with (first | (refine wpList_is rfl _ _ (exec_box 38 _ x.cells.toArray rfl rfl) ?_) | fail)
          clear c0 c2 c3 e1 e2 e3
          generalize w.alloc (.cells x.cells.toArray 38) = wA at HA DA KA HZ ⊢
          refine wp_region_any (by kernel_rfl) (wpAny_of_held (S := KpS [] wA.heap.size wA.drew) _ _ _ _ ?_)
          change wpAnyH _ _ _ _ _ _ _ _ wA.drew
          have kD : KpS [] wA.heap.size wA.drew wA.drew := KpS.refl _ _ _
          have cD : ∀ W1, KpS [] wA.heap.size wA.drew W1 → DlAt W1 w.heap.size 0 x := fun W1 h => (DA.out.keep ((Keeps.refl [] wA).drew) (by simp)).kp h (by have := HZ.out; omega) (by simp)
          refine held_take (i := 0) (v := .pointer (some ⟨w.heap.size, 9, none⟩)) rfl (by kernel_rfl) (by kernel_rfl) (by kernel_rfl) (fun _ _ _ h => h) rfl (fun W1 hW1 => by go_simp) (KpS.refl _ _ _) ?_
          simp only [Act.put, List.setIfInBounds_toArray, List.set_cons_zero, List.set_cons_succ]
          refine held_take (i := 1) (v := ptV x.o) rfl (by kernel_rfl) (by kernel_rfl) (by kernel_rfl) (fun _ _ _ h => h) rfl (fun W1 hW1 => exec_load _ _ _ _ rfl rfl (loadPt_run W1 w.heap.size 9 x.o (by have := (cD W1 hW1).o; simpa using this))) (KpS.refl _ _ _) ?_
          simp only [Act.put, List.setIfInBounds_toArray, List.set_cons_zero, List.set_cons_succ]
          refine held_do (i := 2) (by kernel_rfl) rfl rfl (wp_enter (f := 49) (args := #[ptV x.o]) (by go_simp) (isZero_any wA.drew x.o) ?_)
          rintro e w2 ⟨rfl, k2⟩
          have s2 : KpS [] wA.heap.size wA.drew w2 := (KpS.refl _ _ _).keeps k2 (Nat.le_refl _) (by simp)
          rw [Z.out]
          refine ⟨_, rfl, s2, ?_⟩
          simp only [Act.put, List.setIfInBounds_toArray, List.set_cons_zero, List.set_cons_succ]
          refine held_take (i := 3) (v := .bool false) rfl (by kernel_rfl) (by kernel_rfl) (by kernel_rfl) (fun _ _ _ h => h) rfl (fun W1 hW1 => by go_simp) (s2) ?_
          simp only [Act.put, List.setIfInBounds_toArray, List.set_cons_zero, List.set_cons_succ]
          refine held_take (i := 4) (v := .bool false) rfl (by kernel_rfl) (by kernel_rfl) (by kernel_rfl) (fun _ _ _ h => h) rfl (fun W1 hW1 => rfl) (s2) ?_
          simp only [Act.put, List.setIfInBounds_toArray, List.set_cons_zero, List.set_cons_succ]
          refine held_skip (i := 5) rfl (by kernel_rfl) (by kernel_rfl) (by kernel_rfl) (fun _ _ _ h => h) rfl (s2) ?_
          simp only [Act.put, List.setIfInBounds_toArray, List.set_cons_zero, List.set_cons_succ]
          refine held_skip (i := 6) rfl (by kernel_rfl) (by kernel_rfl) (by kernel_rfl) (fun _ _ _ h => h) rfl (s2) ?_
          simp only [Act.put, List.setIfInBounds_toArray, List.set_cons_zero, List.set_cons_succ]
          refine held_skip (i := 7) rfl (by kernel_rfl) (by kernel_rfl) (by kernel_rfl) (fun _ _ _ h => h) rfl (s2) ?_
          simp only [Act.put, List.setIfInBounds_toArray, List.set_cons_zero, List.set_cons_succ]
          refine held_skip (i := 8) rfl (by kernel_rfl) (by kernel_rfl) (by kernel_rfl) (fun _ _ _ h => h) rfl (s2) ?_
          simp only [Act.put, List.setIfInBounds_toArray, List.set_cons_zero, List.set_cons_succ]
          refine held_skip (i := 9) rfl (by kernel_rfl) (by kernel_rfl) (by kernel_rfl) (fun _ _ _ h => h) rfl (s2) ?_
          simp only [Act.put, List.setIfInBounds_toArray, List.set_cons_zero, List.set_cons_succ]
          refine held_skip (i := 10) rfl (by kernel_rfl) (by kernel_rfl) (by kernel_rfl) (fun _ _ _ h => h) rfl (s2) ?_
          simp only [Act.put, List.setIfInBounds_toArray, List.set_cons_zero, List.set_cons_succ]
          refine held_skip (i := 11) rfl (by kernel_rfl) (by kernel_rfl) (by kernel_rfl) (fun _ _ _ h => h) rfl (s2) ?_
          simp only [Act.put, List.setIfInBounds_toArray, List.set_cons_zero, List.set_cons_succ]
          refine held_take (i := 12) (v := .bool false) rfl (by kernel_rfl) (by kernel_rfl) (by kernel_rfl) (fun _ _ _ h => h) rfl (fun W1 hW1 => by go_simp) (s2) ?_
          simp only [Act.put, List.setIfInBounds_toArray, List.set_cons_zero, List.set_cons_succ]
          refine held_take (i := 13) (v := .bool false) rfl (by kernel_rfl) (by kernel_rfl) (by kernel_rfl) (fun _ _ _ h => h) rfl (fun W1 hW1 => rfl) (s2) ?_
          simp only [Act.put, List.setIfInBounds_toArray, List.set_cons_zero, List.set_cons_succ]
          refine held_skip (i := 14) rfl (by kernel_rfl) (by kernel_rfl) (by kernel_rfl) (fun _ _ _ h => h) rfl (s2) ?_
          simp only [Act.put, List.setIfInBounds_toArray, List.set_cons_zero, List.set_cons_succ]
          refine held_skip (i := 15) rfl (by kernel_rfl) (by kernel_rfl) (by kernel_rfl) (fun _ _ _ h => h) rfl (s2) ?_
          simp only [Act.put, List.setIfInBounds_toArray, List.set_cons_zero, List.set_cons_succ]
          refine held_skip (i := 16) rfl (by kernel_rfl) (by kernel_rfl) (by kernel_rfl) (fun _ _ _ h => h) rfl (s2) ?_
          simp only [Act.put, List.setIfInBounds_toArray, List.set_cons_zero, List.set_cons_succ]
          refine held_take (i := 17) (v := .bool false) rfl (by kernel_rfl) (by kernel_rfl) (by kernel_rfl) (fun _ _ _ h => h) rfl (fun W1 hW1 => by go_simp) (s2) ?_
          simp only [Act.put, List.setIfInBounds_toArray, List.set_cons_zero, List.set_cons_succ]
          refine held_take (i := 18) (v := .bool false) rfl (by kernel_rfl) (by kernel_rfl) (by kernel_rfl) (fun _ _ _ h => h) rfl (fun W1 hW1 => rfl) (s2) ?_
          simp only [Act.put, List.setIfInBounds_toArray, List.set_cons_zero, List.set_cons_succ]
          refine held_skip (i := 19) rfl (by kernel_rfl) (by kernel_rfl) (by kernel_rfl) (fun _ _ _ h => h) rfl (s2) ?_
          simp only [Act.put, List.setIfInBounds_toArray, List.set_cons_zero, List.set_cons_succ]
          refine held_skip (i := 20) rfl (by kernel_rfl) (by kernel_rfl) (by kernel_rfl) (fun _ _ _ h => h) rfl (s2) ?_
          simp only [Act.put, List.setIfInBounds_toArray, List.set_cons_zero, List.set_cons_succ]
          refine held_skip (i := 21) rfl (by kernel_rfl) (by kernel_rfl) (by kernel_rfl) (fun _ _ _ h => h) rfl (s2) ?_
          simp only [Act.put, List.setIfInBounds_toArray, List.set_cons_zero, List.set_cons_succ]
          refine held_skip (i := 22) rfl (by kernel_rfl) (by kernel_rfl) (by kernel_rfl) (fun _ _ _ h => h) rfl (s2) ?_
          simp only [Act.put, List.setIfInBounds_toArray, List.set_cons_zero, List.set_cons_succ]
          refine held_skip (i := 23) rfl (by kernel_rfl) (by kernel_rfl) (by kernel_rfl) (fun _ _ _ h => h) rfl (s2) ?_
          simp only [Act.put, List.setIfInBounds_toArray, List.set_cons_zero, List.set_cons_succ]
          refine held_skip (i := 24) rfl (by kernel_rfl) (by kernel_rfl) (by kernel_rfl) (fun _ _ _ h => h) rfl (s2) ?_
          simp only [Act.put, List.setIfInBounds_toArray, List.set_cons_zero, List.set_cons_succ]
          refine held_skip (i := 25) rfl (by kernel_rfl) (by kernel_rfl) (by kernel_rfl) (fun _ _ _ h => h) rfl (s2) ?_
          simp only [Act.put, List.setIfInBounds_toArray, List.set_cons_zero, List.set_cons_succ]
          refine held_take (i := 26) (v := .bool false) rfl (by kernel_rfl) (by kernel_rfl) (by kernel_rfl) (fun _ _ _ h => h) rfl (fun W1 hW1 => by go_simp) (s2) ?_
          simp only [Act.put, List.setIfInBounds_toArray, List.set_cons_zero, List.set_cons_succ]
          refine held_take (i := 27) (v := .bool false) rfl (by kernel_rfl) (by kernel_rfl) (by kernel_rfl) (fun _ _ _ h => h) rfl (fun W1 hW1 => rfl) (s2) ?_
          simp only [Act.put, List.setIfInBounds_toArray, List.set_cons_zero, List.set_cons_succ]
          refine wpAnyH_done (by kernel_rfl) ?_ _
          have KF := hid (KA.out.drew.trans s2.toKeeps)
          clear cD kD s2
          go_wp2_with fail
          go_ret
          exact ⟨by rw [HR.out, Z.out]; rfl, KF.out⟩
        | false =>
          have Z := hid z
          clear z
          cases ee : eqP (atB s.L x.b) x.o with
          | false =>
            have E := hid ee
            clear ee
            go_enter Tryd.func34, Tryd.ntmps34
            go_wp2_with (first | (refine wpList_is rfl _ _ (exec_box 38 _ x.cells.toArray rfl rfl) ?_) | fail)
            clear c0 c2 c3 e1 e2 e3
            generalize w.alloc (.cells x.cells.toArray 38) = wA at HA DA KA HZ ⊢
            refine wp_region_any (by kernel_rfl) (wpAny_of_held (S := KpS [] wA.heap.size wA.drew) _ _ _ _ ?_)
            change wpAnyH _ _ _ _ _ _ _ _ wA.drew
            have kD : KpS [] wA.heap.size wA.drew wA.drew := KpS.refl _ _ _
            have cD : ∀ W1, KpS [] wA.heap.size wA.drew W1 → DlAt W1 w.heap.size 0 x := fun W1 h => (DA.out.keep ((Keeps.refl [] wA).drew) (by simp)).kp h (by have := HZ.out; omega) (by simp)
            refine held_take (i := 0) (v := .pointer (some ⟨w.heap.size, 9, none⟩)) rfl (by kernel_rfl) (by kernel_rfl) (by kernel_rfl) (fun _ _ _ h => h) rfl (fun W1 hW1 => by go_simp) (KpS.refl _ _ _) ?_
            simp only [Act.put, List.setIfInBounds_toArray, List.set_cons_zero, List.set_cons_succ]
            refine held_take (i := 1) (v := ptV x.o) rfl (by kernel_rfl) (by kernel_rfl) (by kernel_rfl) (fun _ _ _ h => h) rfl (fun W1 hW1 => exec_load _ _ _ _ rfl rfl (loadPt_run W1 w.heap.size 9 x.o (by have := (cD W1 hW1).o; simpa using this))) (KpS.refl _ _ _) ?_
            simp only [Act.put, List.setIfInBounds_toArray, List.set_cons_zero, List.set_cons_succ]
            refine held_do (i := 2) (by kernel_rfl) rfl rfl (wp_enter (f := 49) (args := #[ptV x.o]) (by go_simp) (isZero_any wA.drew x.o) ?_)
            rintro e w2 ⟨rfl, k2⟩
            have s2 : KpS [] wA.heap.size wA.drew w2 := (KpS.refl _ _ _).keeps k2 (Nat.le_refl _) (by simp)
            rw [Z.out]
            refine ⟨_, rfl, s2, ?_⟩
            simp only [Act.put, List.setIfInBounds_toArray, List.set_cons_zero, List.set_cons_succ]
            refine held_take (i := 3) (v := .bool true) rfl (by kernel_rfl) (by kernel_rfl) (by kernel_rfl) (fun _ _ _ h => h) rfl (fun W1 hW1 => by go_simp) (s2) ?_
            simp only [Act.put, List.setIfInBounds_toArray, List.set_cons_zero, List.set_cons_succ]
            refine held_take (i := 4) (v := .bool true) rfl (by kernel_rfl) (by kernel_rfl) (by kernel_rfl) (fun _ _ _ h => h) rfl (fun W1 hW1 => rfl) (s2) ?_
            simp only [Act.put, List.setIfInBounds_toArray, List.set_cons_zero, List.set_cons_succ]
            refine held_takeW (i := 5) (v := .pointer (some ⟨q, 0, none⟩)) rfl (by kernel_rfl) (by kernel_rfl) (by kernel_rfl) (fun _ _ _ h => h) rfl (fun W1 hW1 => rfl) (s2) ?_
            simp only [Act.put, List.setIfInBounds_toArray, List.set_cons_zero, List.set_cons_succ]
            refine held_takeW (i := 6) (v := .pointer (some ⟨w.heap.size, 2, none⟩)) rfl (by kernel_rfl) (by kernel_rfl) (by kernel_rfl) (fun _ _ _ h => h) rfl (fun W1 hW1 => by go_simp) (s2) ?_
            simp only [Act.put, List.setIfInBounds_toArray, List.set_cons_zero, List.set_cons_succ]
            refine held_takeW (i := 7) (v := .int .i64 x.b) rfl (by kernel_rfl) (by kernel_rfl) (by kernel_rfl) (fun _ _ _ h => h) rfl (fun W1 hW1 => exec_load _ _ _ _ rfl rfl (run_loadCell W1 _ _ _ (by have := (cD W1 hW1).c2; simpa using this) (agg_no _ (by kernel_rfl)))) (s2) ?_
            simp only [Act.put, List.setIfInBounds_toArray, List.set_cons_zero, List.set_cons_succ]
            refine held_takeW (i := 9) (v := .pointer (some ⟨w.heap.size, 9, none⟩)) rfl (by kernel_rfl) (by kernel_rfl) (by kernel_rfl) (fun _ _ _ h => h) rfl (fun W1 hW1 => by go_simp) (s2) ?_
            simp only [Act.put, List.setIfInBounds_toArray, List.set_cons_zero, List.set_cons_succ]
            refine held_takeW (i := 10) (v := ptV x.o) rfl (by kernel_rfl) (by kernel_rfl) (by kernel_rfl) (fun _ _ _ h => h) rfl (fun W1 hW1 => exec_load _ _ _ _ rfl rfl (loadPt_run W1 w.heap.size 9 x.o (by have := (cD W1 hW1).o; simpa using this))) (s2) ?_
            simp only [Act.put, List.setIfInBounds_toArray, List.set_cons_zero, List.set_cons_succ]
            refine held_doW (i := 8) (by kernel_rfl) rfl rfl (wp_enter (f := 21) (args := #[.pointer (some ⟨q, 0, none⟩), .int .i64 x.b]) (by go_simp) (zAt_any (((HA.out.later ((Keeps.refl [] wA).drew)).kp s2 (Nat.le_refl _))) x.b) ?_)
            rintro e w3 ⟨rfl, k3⟩
            have s3 : KpS [] wA.heap.size wA.drew w3 := s2.keeps k3 s2.size (by simp)
            refine ⟨_, rfl, s3, ?_⟩
            simp only [Act.put, List.setIfInBounds_toArray, List.set_cons_zero, List.set_cons_succ]
            refine held_takeW (i := 11) (v := .bool false) rfl (by kernel_rfl) (by kernel_rfl) (by kernel_rfl) (fun _ _ _ h => h) rfl (fun W1 hW1 => (exec_eqPts _ _ _ (atB s.L x.b) x.o rfl rfl rfl).trans (by rw [E.out])) (s3) ?_
            simp only [Act.put, List.setIfInBounds_toArray, List.set_cons_zero, List.set_cons_succ]
            refine held_take (i := 12) (v := .bool false) rfl (by kernel_rfl) (by kernel_rfl) (by kernel_rfl) (fun _ _ _ h => h) rfl (fun W1 hW1 => by go_simp) (s3) ?_
            simp only [Act.put, List.setIfInBounds_toArray, List.set_cons_zero, List.set_cons_succ]
            refine held_take (i := 13) (v := .bool false) rfl (by kernel_rfl) (by kernel_rfl) (by kernel_rfl) (fun _ _ _ h => h) rfl (fun W1 hW1 => rfl) (s3) ?_
            simp only [Act.put, List.setIfInBounds_toArray, List.set_cons_zero, List.set_cons_succ]
            refine held_skip (i := 14) rfl (by kernel_rfl) (by kernel_rfl) (by kernel_rfl) (fun _ _ _ h => h) rfl (s3) ?_
            simp only [Act.put, List.setIfInBounds_toArray, List.set_cons_zero, List.set_cons_succ]
            refine held_skip (i := 15) rfl (by kernel_rfl) (by kernel_rfl) (by kernel_rfl) (fun _ _ _ h => h) rfl (s3) ?_
            simp only [Act.put, List.setIfInBounds_toArray, List.set_cons_zero, List.set_cons_succ]
            refine held_skip (i := 16) rfl (by kernel_rfl) (by kernel_rfl) (by kernel_rfl) (fun _ _ _ h => h) rfl (s3) ?_
            simp only [Act.put, List.setIfInBounds_toArray, List.set_cons_zero, List.set_cons_succ]
            refine held_take (i := 17) (v := .bool false) rfl (by kernel_rfl) (by kernel_rfl) (by kernel_rfl) (fun _ _ _ h => h) rfl (fun W1 hW1 => by go_simp) (s3) ?_
            simp only [Act.put, List.setIfInBounds_toArray, List.set_cons_zero, List.set_cons_succ]
            refine held_take (i := 18) (v := .bool false) rfl (by kernel_rfl) (by kernel_rfl) (by kernel_rfl) (fun _ _ _ h => h) rfl (fun W1 hW1 => rfl) (s3) ?_
            simp only [Act.put, List.setIfInBounds_toArray, List.set_cons_zero, List.set_cons_succ]
            refine held_skip (i := 19) rfl (by kernel_rfl) (by kernel_rfl) (by kernel_rfl) (fun _ _ _ h => h) rfl (s3) ?_
            simp only [Act.put, List.setIfInBounds_toArray, List.set_cons_zero, List.set_cons_succ]
            refine held_skip (i := 20) rfl (by kernel_rfl) (by kernel_rfl) (by kernel_rfl) (fun _ _ _ h => h) rfl (s3) ?_
            simp only [Act.put, List.setIfInBounds_toArray, List.set_cons_zero, List.set_cons_succ]
            refine held_skip (i := 21) rfl (by kernel_rfl) (by kernel_rfl) (by kernel_rfl) (fun _ _ _ h => h) rfl (s3) ?_
            simp only [Act.put, List.setIfInBounds_toArray, List.set_cons_zero, List.set_cons_succ]
            refine held_skip (i := 22) rfl (by kernel_rfl) (by kernel_rfl) (by kernel_rfl) (fun _ _ _ h => h) rfl (s3) ?_
            simp only [Act.put, List.setIfInBounds_toArray, List.set_cons_zero, List.set_cons_succ]
            refine held_skip (i := 23) rfl (by kernel_rfl) (by kernel_rfl) (by kernel_rfl) (fun _ _ _ h => h) rfl (s3) ?_
            simp only [Act.put, List.setIfInBounds_toArray, List.set_cons_zero, List.set_cons_succ]
            refine held_skip (i := 24) rfl (by kernel_rfl) (by kernel_rfl) (by kernel_rfl) (fun _ _ _ h => h) rfl (s3) ?_
            simp only [Act.put, List.setIfInBounds_toArray, List.set_cons_zero, List.set_cons_succ]
            refine held_skip (i := 25) rfl (by kernel_rfl) (by kernel_rfl) (by kernel_rfl) (fun _ _ _ h => h) rfl (s3) ?_
            simp only [Act.put, List.setIfInBounds_toArray, List.set_cons_zero, List.set_cons_succ]
            refine held_take (i := 26) (v := .bool false) rfl (by kernel_rfl) (by kernel_rfl) (by kernel_rfl) (fun _ _ _ h => h) rfl (fun W1 hW1 => by go_simp) (s3) ?_
            simp only [Act.put, List.setIfInBounds_toArray, List.set_cons_zero, List.set_cons_succ]
            refine held_take (i := 27) (v := .bool false) rfl (by kernel_rfl) (by kernel_rfl) (by kernel_rfl) (fun _ _ _ h => h) rfl (fun W1 hW1 => rfl) (s3) ?_
            simp only [Act.put, List.setIfInBounds_toArray, List.set_cons_zero, List.set_cons_succ]
            refine wpAnyH_done (by kernel_rfl) ?_ _
            have KF := hid (KA.out.drew.trans s3.toKeeps)
            clear cD kD s2 s3
            go_wp2_with fail
            go_ret
            exact ⟨by rw [HR.out, Z.out, E.out]; rfl, KF.out⟩
          | true =>
            have E := hid ee
            clear ee
            cases mm : mayP x.t with
            | false =>
              have MM := hid mm
              clear mm
              go_enter Tryd.func34, Tryd.ntmps34
              go_wp2_with (first | (refine wpList_is rfl _ _ (exec_box 38 _ x.cells.toArray rfl rfl) ?_) | fail)
              clear c0 c2 c3 e1 e2 e3
              generalize w.alloc (.cells x.cells.toArray 38) = wA at HA DA KA HZ ⊢
              refine wp_region_any (by kernel_rfl) (wpAny_of_held (S := KpS [] wA.heap.size wA.drew) _ _ _ _ ?_)
              change wpAnyH _ _ _ _ _ _ _ _ wA.drew
              have kD : KpS [] wA.heap.size wA.drew wA.drew := KpS.refl _ _ _
              have cD : ∀ W1, KpS [] wA.heap.size wA.drew W1 → DlAt W1 w.heap.size 0 x := fun W1 h => (DA.out.keep ((Keeps.refl [] wA).drew) (by simp)).kp h (by have := HZ.out; omega) (by simp)
              refine held_take (i := 0) (v := .pointer (some ⟨w.heap.size, 9, none⟩)) rfl (by kernel_rfl) (by kernel_rfl) (by kernel_rfl) (fun _ _ _ h => h) rfl (fun W1 hW1 => by go_simp) (KpS.refl _ _ _) ?_
              simp only [Act.put, List.setIfInBounds_toArray, List.set_cons_zero, List.set_cons_succ]
              refine held_take (i := 1) (v := ptV x.o) rfl (by kernel_rfl) (by kernel_rfl) (by kernel_rfl) (fun _ _ _ h => h) rfl (fun W1 hW1 => exec_load _ _ _ _ rfl rfl (loadPt_run W1 w.heap.size 9 x.o (by have := (cD W1 hW1).o; simpa using this))) (KpS.refl _ _ _) ?_
              simp only [Act.put, List.setIfInBounds_toArray, List.set_cons_zero, List.set_cons_succ]
              refine held_do (i := 2) (by kernel_rfl) rfl rfl (wp_enter (f := 49) (args := #[ptV x.o]) (by go_simp) (isZero_any wA.drew x.o) ?_)
              rintro e w2 ⟨rfl, k2⟩
              have s2 : KpS [] wA.heap.size wA.drew w2 := (KpS.refl _ _ _).keeps k2 (Nat.le_refl _) (by simp)
              rw [Z.out]
              refine ⟨_, rfl, s2, ?_⟩
              simp only [Act.put, List.setIfInBounds_toArray, List.set_cons_zero, List.set_cons_succ]
              refine held_take (i := 3) (v := .bool true) rfl (by kernel_rfl) (by kernel_rfl) (by kernel_rfl) (fun _ _ _ h => h) rfl (fun W1 hW1 => by go_simp) (s2) ?_
              simp only [Act.put, List.setIfInBounds_toArray, List.set_cons_zero, List.set_cons_succ]
              refine held_take (i := 4) (v := .bool true) rfl (by kernel_rfl) (by kernel_rfl) (by kernel_rfl) (fun _ _ _ h => h) rfl (fun W1 hW1 => rfl) (s2) ?_
              simp only [Act.put, List.setIfInBounds_toArray, List.set_cons_zero, List.set_cons_succ]
              refine held_takeW (i := 5) (v := .pointer (some ⟨q, 0, none⟩)) rfl (by kernel_rfl) (by kernel_rfl) (by kernel_rfl) (fun _ _ _ h => h) rfl (fun W1 hW1 => rfl) (s2) ?_
              simp only [Act.put, List.setIfInBounds_toArray, List.set_cons_zero, List.set_cons_succ]
              refine held_takeW (i := 6) (v := .pointer (some ⟨w.heap.size, 2, none⟩)) rfl (by kernel_rfl) (by kernel_rfl) (by kernel_rfl) (fun _ _ _ h => h) rfl (fun W1 hW1 => by go_simp) (s2) ?_
              simp only [Act.put, List.setIfInBounds_toArray, List.set_cons_zero, List.set_cons_succ]
              refine held_takeW (i := 7) (v := .int .i64 x.b) rfl (by kernel_rfl) (by kernel_rfl) (by kernel_rfl) (fun _ _ _ h => h) rfl (fun W1 hW1 => exec_load _ _ _ _ rfl rfl (run_loadCell W1 _ _ _ (by have := (cD W1 hW1).c2; simpa using this) (agg_no _ (by kernel_rfl)))) (s2) ?_
              simp only [Act.put, List.setIfInBounds_toArray, List.set_cons_zero, List.set_cons_succ]
              refine held_takeW (i := 9) (v := .pointer (some ⟨w.heap.size, 9, none⟩)) rfl (by kernel_rfl) (by kernel_rfl) (by kernel_rfl) (fun _ _ _ h => h) rfl (fun W1 hW1 => by go_simp) (s2) ?_
              simp only [Act.put, List.setIfInBounds_toArray, List.set_cons_zero, List.set_cons_succ]
              refine held_takeW (i := 10) (v := ptV x.o) rfl (by kernel_rfl) (by kernel_rfl) (by kernel_rfl) (fun _ _ _ h => h) rfl (fun W1 hW1 => exec_load _ _ _ _ rfl rfl (loadPt_run W1 w.heap.size 9 x.o (by have := (cD W1 hW1).o; simpa using this))) (s2) ?_
              simp only [Act.put, List.setIfInBounds_toArray, List.set_cons_zero, List.set_cons_succ]
              refine held_doW (i := 8) (by kernel_rfl) rfl rfl (wp_enter (f := 21) (args := #[.pointer (some ⟨q, 0, none⟩), .int .i64 x.b]) (by go_simp) (zAt_any (((HA.out.later ((Keeps.refl [] wA).drew)).kp s2 (Nat.le_refl _))) x.b) ?_)
              rintro e w3 ⟨rfl, k3⟩
              have s3 : KpS [] wA.heap.size wA.drew w3 := s2.keeps k3 s2.size (by simp)
              refine ⟨_, rfl, s3, ?_⟩
              simp only [Act.put, List.setIfInBounds_toArray, List.set_cons_zero, List.set_cons_succ]
              refine held_takeW (i := 11) (v := .bool true) rfl (by kernel_rfl) (by kernel_rfl) (by kernel_rfl) (fun _ _ _ h => h) rfl (fun W1 hW1 => (exec_eqPts _ _ _ (atB s.L x.b) x.o rfl rfl rfl).trans (by rw [E.out])) (s3) ?_
              simp only [Act.put, List.setIfInBounds_toArray, List.set_cons_zero, List.set_cons_succ]
              refine held_take (i := 12) (v := .bool true) rfl (by kernel_rfl) (by kernel_rfl) (by kernel_rfl) (fun _ _ _ h => h) rfl (fun W1 hW1 => by go_simp) (s3) ?_
              simp only [Act.put, List.setIfInBounds_toArray, List.set_cons_zero, List.set_cons_succ]
              refine held_take (i := 13) (v := .bool true) rfl (by kernel_rfl) (by kernel_rfl) (by kernel_rfl) (fun _ _ _ h => h) rfl (fun W1 hW1 => rfl) (s3) ?_
              simp only [Act.put, List.setIfInBounds_toArray, List.set_cons_zero, List.set_cons_succ]
              refine held_takeW (i := 14) (v := .pointer (some ⟨w.heap.size, 4, none⟩)) rfl (by kernel_rfl) (by kernel_rfl) (by kernel_rfl) (fun _ _ _ h => h) rfl (fun W1 hW1 => by go_simp) (s3) ?_
              simp only [Act.put, List.setIfInBounds_toArray, List.set_cons_zero, List.set_cons_succ]
              refine held_takeW (i := 15) (v := ptV x.t) rfl (by kernel_rfl) (by kernel_rfl) (by kernel_rfl) (fun _ _ _ h => h) rfl (fun W1 hW1 => exec_load _ _ _ _ rfl rfl (loadPt_run W1 w.heap.size 4 x.t (by have := (cD W1 hW1).t; simpa using this))) (s3) ?_
              simp only [Act.put, List.setIfInBounds_toArray, List.set_cons_zero, List.set_cons_succ]
              refine held_doW (i := 16) (by kernel_rfl) rfl rfl (wp_enter (f := 48) (args := #[ptV x.t]) (by go_simp) (may11_any w3 x.t) ?_)
              rintro e w4 ⟨rfl, k4⟩
              have s4 : KpS [] wA.heap.size wA.drew w4 := s3.keeps k4 s3.size (by simp)
              rw [MM.out]
              refine ⟨_, rfl, s4, ?_⟩
              simp only [Act.put, List.setIfInBounds_toArray, List.set_cons_zero, List.set_cons_succ]
              refine held_take (i := 17) (v := .bool false) rfl (by kernel_rfl) (by kernel_rfl) (by kernel_rfl) (fun _ _ _ h => h) rfl (fun W1 hW1 => by go_simp) (s4) ?_
              simp only [Act.put, List.setIfInBounds_toArray, List.set_cons_zero, List.set_cons_succ]
              refine held_take (i := 18) (v := .bool false) rfl (by kernel_rfl) (by kernel_rfl) (by kernel_rfl) (fun _ _ _ h => h) rfl (fun W1 hW1 => rfl) (s4) ?_
              simp only [Act.put, List.setIfInBounds_toArray, List.set_cons_zero, List.set_cons_succ]
              refine held_skip (i := 19) rfl (by kernel_rfl) (by kernel_rfl) (by kernel_rfl) (fun _ _ _ h => h) rfl (s4) ?_
              simp only [Act.put, List.setIfInBounds_toArray, List.set_cons_zero, List.set_cons_succ]
              refine held_skip (i := 20) rfl (by kernel_rfl) (by kernel_rfl) (by kernel_rfl) (fun _ _ _ h => h) rfl (s4) ?_
              simp only [Act.put, List.setIfInBounds_toArray, List.set_cons_zero, List.set_cons_succ]
              refine held_skip (i := 21) rfl (by kernel_rfl) (by kernel_rfl) (by kernel_rfl) (fun _ _ _ h => h) rfl (s4) ?_
              simp only [Act.put, List.setIfInBounds_toArray, List.set_cons_zero, List.set_cons_succ]
              refine held_skip (i := 22) rfl (by kernel_rfl) (by kernel_rfl) (by kernel_rfl) (fun _ _ _ h => h) rfl (s4) ?_
              simp only [Act.put, List.setIfInBounds_toArray, List.set_cons_zero, List.set_cons_succ]
              refine held_skip (i := 23) rfl (by kernel_rfl) (by kernel_rfl) (by kernel_rfl) (fun _ _ _ h => h) rfl (s4) ?_
              simp only [Act.put, List.setIfInBounds_toArray, List.set_cons_zero, List.set_cons_succ]
              refine held_skip (i := 24) rfl (by kernel_rfl) (by kernel_rfl) (by kernel_rfl) (fun _ _ _ h => h) rfl (s4) ?_
              simp only [Act.put, List.setIfInBounds_toArray, List.set_cons_zero, List.set_cons_succ]
              refine held_skip (i := 25) rfl (by kernel_rfl) (by kernel_rfl) (by kernel_rfl) (fun _ _ _ h => h) rfl (s4) ?_
              simp only [Act.put, List.setIfInBounds_toArray, List.set_cons_zero, List.set_cons_succ]
              refine held_take (i := 26) (v := .bool false) rfl (by kernel_rfl) (by kernel_rfl) (by kernel_rfl) (fun _ _ _ h => h) rfl (fun W1 hW1 => by go_simp) (s4) ?_
              simp only [Act.put, List.setIfInBounds_toArray, List.set_cons_zero, List.set_cons_succ]
              refine held_take (i := 27) (v := .bool false) rfl (by kernel_rfl) (by kernel_rfl) (by kernel_rfl) (fun _ _ _ h => h) rfl (fun W1 hW1 => rfl) (s4) ?_
              simp only [Act.put, List.setIfInBounds_toArray, List.set_cons_zero, List.set_cons_succ]
              refine wpAnyH_done (by kernel_rfl) ?_ _
              have KF := hid (KA.out.drew.trans s4.toKeeps)
              clear cD kD s2 s3 s4
              go_wp2_with fail
              go_ret
              exact ⟨by rw [HR.out, Z.out, E.out, MM.out]; rfl, KF.out⟩
            | true =>
              have MM := hid mm
              clear mm
              go_enter Tryd.func34, Tryd.ntmps34
              go_wp2_with (first | (refine wpList_is rfl _ _ (exec_box 38 _ x.cells.toArray rfl rfl) ?_) | fail)
              clear c0 c2 c3 e1 e2 e3
              generalize w.alloc (.cells x.cells.toArray 38) = wA at HA DA KA HZ ⊢
              refine wp_region_any (by kernel_rfl) (wpAny_of_held (S := KpS [] wA.heap.size wA.drew) _ _ _ _ ?_)
              change wpAnyH _ _ _ _ _ _ _ _ wA.drew
              have kD : KpS [] wA.heap.size wA.drew wA.drew := KpS.refl _ _ _
              have cD : ∀ W1, KpS [] wA.heap.size wA.drew W1 → DlAt W1 w.heap.size 0 x := fun W1 h => (DA.out.keep ((Keeps.refl [] wA).drew) (by simp)).kp h (by have := HZ.out; omega) (by simp)
              refine held_take (i := 0) (v := .pointer (some ⟨w.heap.size, 9, none⟩)) rfl (by kernel_rfl) (by kernel_rfl) (by kernel_rfl) (fun _ _ _ h => h) rfl (fun W1 hW1 => by go_simp) (KpS.refl _ _ _) ?_
              simp only [Act.put, List.setIfInBounds_toArray, List.set_cons_zero, List.set_cons_succ]
              refine held_take (i := 1) (v := ptV x.o) rfl (by kernel_rfl) (by kernel_rfl) (by kernel_rfl) (fun _ _ _ h => h) rfl (fun W1 hW1 => exec_load _ _ _ _ rfl rfl (loadPt_run W1 w.heap.size 9 x.o (by have := (cD W1 hW1).o; simpa using this))) (KpS.refl _ _ _) ?_
              simp only [Act.put, List.setIfInBounds_toArray, List.set_cons_zero, List.set_cons_succ]
              refine held_do (i := 2) (by kernel_rfl) rfl rfl (wp_enter (f := 49) (args := #[ptV x.o]) (by go_simp) (isZero_any wA.drew x.o) ?_)
              rintro e w2 ⟨rfl, k2⟩
              have s2 : KpS [] wA.heap.size wA.drew w2 := (KpS.refl _ _ _).keeps k2 (Nat.le_refl _) (by simp)
              rw [Z.out]
              refine ⟨_, rfl, s2, ?_⟩
              simp only [Act.put, List.setIfInBounds_toArray, List.set_cons_zero, List.set_cons_succ]
              refine held_take (i := 3) (v := .bool true) rfl (by kernel_rfl) (by kernel_rfl) (by kernel_rfl) (fun _ _ _ h => h) rfl (fun W1 hW1 => by go_simp) (s2) ?_
              simp only [Act.put, List.setIfInBounds_toArray, List.set_cons_zero, List.set_cons_succ]
              refine held_take (i := 4) (v := .bool true) rfl (by kernel_rfl) (by kernel_rfl) (by kernel_rfl) (fun _ _ _ h => h) rfl (fun W1 hW1 => rfl) (s2) ?_
              simp only [Act.put, List.setIfInBounds_toArray, List.set_cons_zero, List.set_cons_succ]
              refine held_takeW (i := 5) (v := .pointer (some ⟨q, 0, none⟩)) rfl (by kernel_rfl) (by kernel_rfl) (by kernel_rfl) (fun _ _ _ h => h) rfl (fun W1 hW1 => rfl) (s2) ?_
              simp only [Act.put, List.setIfInBounds_toArray, List.set_cons_zero, List.set_cons_succ]
              refine held_takeW (i := 6) (v := .pointer (some ⟨w.heap.size, 2, none⟩)) rfl (by kernel_rfl) (by kernel_rfl) (by kernel_rfl) (fun _ _ _ h => h) rfl (fun W1 hW1 => by go_simp) (s2) ?_
              simp only [Act.put, List.setIfInBounds_toArray, List.set_cons_zero, List.set_cons_succ]
              refine held_takeW (i := 7) (v := .int .i64 x.b) rfl (by kernel_rfl) (by kernel_rfl) (by kernel_rfl) (fun _ _ _ h => h) rfl (fun W1 hW1 => exec_load _ _ _ _ rfl rfl (run_loadCell W1 _ _ _ (by have := (cD W1 hW1).c2; simpa using this) (agg_no _ (by kernel_rfl)))) (s2) ?_
              simp only [Act.put, List.setIfInBounds_toArray, List.set_cons_zero, List.set_cons_succ]
              refine held_takeW (i := 9) (v := .pointer (some ⟨w.heap.size, 9, none⟩)) rfl (by kernel_rfl) (by kernel_rfl) (by kernel_rfl) (fun _ _ _ h => h) rfl (fun W1 hW1 => by go_simp) (s2) ?_
              simp only [Act.put, List.setIfInBounds_toArray, List.set_cons_zero, List.set_cons_succ]
              refine held_takeW (i := 10) (v := ptV x.o) rfl (by kernel_rfl) (by kernel_rfl) (by kernel_rfl) (fun _ _ _ h => h) rfl (fun W1 hW1 => exec_load _ _ _ _ rfl rfl (loadPt_run W1 w.heap.size 9 x.o (by have := (cD W1 hW1).o; simpa using this))) (s2) ?_
              simp only [Act.put, List.setIfInBounds_toArray, List.set_cons_zero, List.set_cons_succ]
              refine held_doW (i := 8) (by kernel_rfl) rfl rfl (wp_enter (f := 21) (args := #[.pointer (some ⟨q, 0, none⟩), .int .i64 x.b]) (by go_simp) (zAt_any (((HA.out.later ((Keeps.refl [] wA).drew)).kp s2 (Nat.le_refl _))) x.b) ?_)
              rintro e w3 ⟨rfl, k3⟩
              have s3 : KpS [] wA.heap.size wA.drew w3 := s2.keeps k3 s2.size (by simp)
              refine ⟨_, rfl, s3, ?_⟩
              simp only [Act.put, List.setIfInBounds_toArray, List.set_cons_zero, List.set_cons_succ]
              refine held_takeW (i := 11) (v := .bool true) rfl (by kernel_rfl) (by kernel_rfl) (by kernel_rfl) (fun _ _ _ h => h) rfl (fun W1 hW1 => (exec_eqPts _ _ _ (atB s.L x.b) x.o rfl rfl rfl).trans (by rw [E.out])) (s3) ?_
              simp only [Act.put, List.setIfInBounds_toArray, List.set_cons_zero, List.set_cons_succ]
              refine held_take (i := 12) (v := .bool true) rfl (by kernel_rfl) (by kernel_rfl) (by kernel_rfl) (fun _ _ _ h => h) rfl (fun W1 hW1 => by go_simp) (s3) ?_
              simp only [Act.put, List.setIfInBounds_toArray, List.set_cons_zero, List.set_cons_succ]
              refine held_take (i := 13) (v := .bool true) rfl (by kernel_rfl) (by kernel_rfl) (by kernel_rfl) (fun _ _ _ h => h) rfl (fun W1 hW1 => rfl) (s3) ?_
              simp only [Act.put, List.setIfInBounds_toArray, List.set_cons_zero, List.set_cons_succ]
              refine held_takeW (i := 14) (v := .pointer (some ⟨w.heap.size, 4, none⟩)) rfl (by kernel_rfl) (by kernel_rfl) (by kernel_rfl) (fun _ _ _ h => h) rfl (fun W1 hW1 => by go_simp) (s3) ?_
              simp only [Act.put, List.setIfInBounds_toArray, List.set_cons_zero, List.set_cons_succ]
              refine held_takeW (i := 15) (v := ptV x.t) rfl (by kernel_rfl) (by kernel_rfl) (by kernel_rfl) (fun _ _ _ h => h) rfl (fun W1 hW1 => exec_load _ _ _ _ rfl rfl (loadPt_run W1 w.heap.size 4 x.t (by have := (cD W1 hW1).t; simpa using this))) (s3) ?_
              simp only [Act.put, List.setIfInBounds_toArray, List.set_cons_zero, List.set_cons_succ]
              refine held_doW (i := 16) (by kernel_rfl) rfl rfl (wp_enter (f := 48) (args := #[ptV x.t]) (by go_simp) (may11_any w3 x.t) ?_)
              rintro e w4 ⟨rfl, k4⟩
              have s4 : KpS [] wA.heap.size wA.drew w4 := s3.keeps k4 s3.size (by simp)
              rw [MM.out]
              refine ⟨_, rfl, s4, ?_⟩
              simp only [Act.put, List.setIfInBounds_toArray, List.set_cons_zero, List.set_cons_succ]
              refine held_take (i := 17) (v := .bool true) rfl (by kernel_rfl) (by kernel_rfl) (by kernel_rfl) (fun _ _ _ h => h) rfl (fun W1 hW1 => by go_simp) (s4) ?_
              simp only [Act.put, List.setIfInBounds_toArray, List.set_cons_zero, List.set_cons_succ]
              refine held_take (i := 18) (v := .bool true) rfl (by kernel_rfl) (by kernel_rfl) (by kernel_rfl) (fun _ _ _ h => h) rfl (fun W1 hW1 => rfl) (s4) ?_
              simp only [Act.put, List.setIfInBounds_toArray, List.set_cons_zero, List.set_cons_succ]
              refine held_takeW (i := 19) (v := .pointer (some ⟨w.heap.size, 4, none⟩)) rfl (by kernel_rfl) (by kernel_rfl) (by kernel_rfl) (fun _ _ _ h => h) rfl (fun W1 hW1 => by go_simp) (s4) ?_
              simp only [Act.put, List.setIfInBounds_toArray, List.set_cons_zero, List.set_cons_succ]
              refine held_takeW (i := 20) (v := .pointer (some ⟨w.heap.size, 8, none⟩)) rfl (by kernel_rfl) (by kernel_rfl) (by kernel_rfl) (fun _ _ _ h => h) rfl (fun W1 hW1 => by go_simp) (s4) ?_
              simp only [Act.put, List.setIfInBounds_toArray, List.set_cons_zero, List.set_cons_succ]
              refine held_takeW (i := 21) (v := .int .i64 x.t.k) rfl (by kernel_rfl) (by kernel_rfl) (by kernel_rfl) (fun _ _ _ h => h) rfl (fun W1 hW1 => exec_load _ _ _ _ rfl rfl (run_loadCell W1 _ _ _ (by have := (range_at (cD W1 hW1).t).2.2.2.2; simpa using this) (agg_no _ (by kernel_rfl)))) (s4) ?_
              simp only [Act.put, List.setIfInBounds_toArray, List.set_cons_zero, List.set_cons_succ]
              refine held_takeW (i := 22) (v := .pointer (some ⟨w.heap.size, 9, none⟩)) rfl (by kernel_rfl) (by kernel_rfl) (by kernel_rfl) (fun _ _ _ h => h) rfl (fun W1 hW1 => by go_simp) (s4) ?_
              simp only [Act.put, List.setIfInBounds_toArray, List.set_cons_zero, List.set_cons_succ]
              refine held_takeW (i := 23) (v := .pointer (some ⟨w.heap.size, 13, none⟩)) rfl (by kernel_rfl) (by kernel_rfl) (by kernel_rfl) (fun _ _ _ h => h) rfl (fun W1 hW1 => by go_simp) (s4) ?_
              simp only [Act.put, List.setIfInBounds_toArray, List.set_cons_zero, List.set_cons_succ]
              refine held_takeW (i := 24) (v := .int .i64 x.o.k) rfl (by kernel_rfl) (by kernel_rfl) (by kernel_rfl) (fun _ _ _ h => h) rfl (fun W1 hW1 => exec_load _ _ _ _ rfl rfl (run_loadCell W1 _ _ _ (by have := (range_at (cD W1 hW1).o).2.2.2.2; simpa using this) (agg_no _ (by kernel_rfl)))) (s4) ?_
              simp only [Act.put, List.setIfInBounds_toArray, List.set_cons_zero, List.set_cons_succ]
              refine held_takeW (i := 25) (v := .bool (x.t.k == x.o.k)) rfl (by kernel_rfl) (by kernel_rfl) (by kernel_rfl) (fun _ _ _ h => h) rfl (fun W1 hW1 => by go_simp) (s4) ?_
              simp only [Act.put, List.setIfInBounds_toArray, List.set_cons_zero, List.set_cons_succ]
              refine held_take (i := 26) (v := .bool (x.t.k == x.o.k)) rfl (by kernel_rfl) (by kernel_rfl) (by kernel_rfl) (fun _ _ _ h => h) rfl (fun W1 hW1 => by go_simp) (s4) ?_
              simp only [Act.put, List.setIfInBounds_toArray, List.set_cons_zero, List.set_cons_succ]
              refine held_take (i := 27) (v := .bool (x.t.k == x.o.k)) rfl (by kernel_rfl) (by kernel_rfl) (by kernel_rfl) (fun _ _ _ h => h) rfl (fun W1 hW1 => rfl) (s4) ?_
              simp only [Act.put, List.setIfInBounds_toArray, List.set_cons_zero, List.set_cons_succ]
              refine wpAnyH_done (by kernel_rfl) ?_ _
              have KF := hid (KA.out.drew.trans s4.toKeeps)
              clear cD kD s2 s3 s4
              go_wp2_with fail
              go_ret
              exact ⟨by rw [HR.out, Z.out, E.out, MM.out]; rfl, KF.out⟩
      · have e3 : (x.d == 3) = false := by simpa using h3
        rw [if_neg h3] at HR
        clear h3
        go_enter Tryd.func34, Tryd.ntmps34
        go_wp2_with (first | (refine wpList_is rfl _ _ (exec_box 38 _ x.cells.toArray rfl rfl) ?_) | fail)
        go_ret
        exact ⟨by rw [HR.out]; rfl, KA.out⟩
end Go.Proofs.YtcfmonlgpccndaaDoor
