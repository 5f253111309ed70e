/- layout: the walk of the law LayoutCuts. -/
import Derived.Test.YtoglcohdanpciaaLyJ8
namespace Go.Proofs.Ytoglcohdanpciaa
open Go.RowKit Go.Shelf
set_option maxRecDepth 100000
set_option linter.unusedSimpArgs false
set_option linter.unusedVariables false

theorem cutpost_rs {w w' : World} {r : List (List Int) × Int} {e : Ending} (h : CutPost w r e w') (hl : r.1.length ≤ 1000) : RCutPost w r e w' := by
  obtain ⟨k, h⟩ := h
  rcases h with ⟨h0, h1, rfl⟩ | ⟨h0, g, vs, rfl, hb, hh, hg⟩
  · refine ⟨k, none, 0, by rw [h1]; rfl, ?_⟩
    rw [h1]
    exact (GrowAt.start w').rs
  · exact ⟨k, some ⟨g, 0, none⟩, r.1.length, by rw [h0], hh.rs hb hh.len (by unfold maxLen; omega)⟩
theorem cutL_small (s : Spe) (d : List Int) (n : Int) : (cutL s d n).1.length ≤ 16 ∧ ∀ l ∈ (cutL s d n).1, l.length ≤ 412 := by
  unfold cutL
  by_cases h : maySv n = true ∧ mayE s = true
  · rw [if_pos h]
    obtain ⟨n3, n16⟩ := maySv_is.1 h.1
    by_cases h2 : 400 * (n - 1) < d.length
    · rw [if_pos h2]; simp
    · rw [if_neg h2]
      refine ⟨by rw [fragsL_len]; omega, fun l hl => ?_⟩
      obtain ⟨k, hk, rfl⟩ := mem_getD hl
      rw [fragsL_len] at hk
      exact frag_len (by omega) hk (by omega)
  · rw [if_neg h]; simp
set_option maxHeartbeats 25600000 in
theorem yCuts_any (w : World) (s : Spe) (v : Value) (d : List Int) (n0 n1 n2 n3 : Int) (hd : RowAt w v d) (hl : d.length ≤ 140737488351232) (h1 : n1 ≤ 9223372036854775807) (h2 : n2 ≤ 9223372036854775807) :
    Calls Try.prog 4 #[.agg #[.int .i64 s.c, .int .i64 s.l, .int .i64 s.n], v, .agg #[.int .i64 n0, .int .i64 n1, .int .i64 n2, .int .i64 n3]] w fun e w' => e = .returned (.bool true) ∧ Keeps [] w w' := by
  obtain ⟨va, vc, rfl, _⟩ := id hd
  have B1 := hid h1
  obtain ⟨w0, hw0⟩ : ∃ x, x = (w.alloc (.cells #[.int .i64 s.c, .int .i64 s.l, .int .i64 s.n] 30)).alloc (.cells #[.int .i64 n0, .int .i64 n1, .int .i64 n2, .int .i64 n3] 39) := ⟨_, rfl⟩
  have HW0 := hid hw0
  have ka : Keeps [] w (w.alloc (.cells #[.int .i64 s.c, .int .i64 s.l, .int .i64 s.n] 30)) := (Keeps.refl [] _).alloc _
  have k0 : Keeps [] w w0 := by rw [hw0]; exact ka.alloc _
  have b1 : w0.heap[w.heap.size]? = some (.cells #[.int .i64 s.c, .int .i64 s.l, .int .i64 s.n] 30 (0, 0)) := by
    rw [hw0]
    exact (((Keeps.refl [] _).alloc _).block w.heap.size (by simp) (by simp)).trans (heap_alloc_new w _)
  have b2 : w0.heap[w.heap.size + 1]? = some (.cells #[.int .i64 n0, .int .i64 n1, .int .i64 n2, .int .i64 n3] 39 (0, 0)) := by
    rw [hw0]
    have := heap_alloc_new (w.alloc (.cells #[.int .i64 s.c, .int .i64 s.l, .int .i64 s.n] 30)) (.cells #[.int .i64 n0, .int .i64 n1, .int .i64 n2, .int .i64 n3] 39)
    rw [World.size_alloc] at this
    exact this
  have G0 := hid (show w0.rangeAt w.heap.size 0 s.cells from range_cells b1)
  have N0 := hid (show w0.rangeAt (w.heap.size + 1) 0 [.int .i64 n0, .int .i64 n1, .int .i64 n2, .int .i64 n3] from range_cells b2)
  have HD0 := hid (hd.keep k0 (by intro _ _ _ _ _; simp))
  have K0 := hid k0
  have A1 := hid (yAwake_any w0)
  obtain ⟨r, hr⟩ : ∃ r, r = cutL s d n0 := ⟨_, rfl⟩
  obtain ⟨rs1, rs2⟩ := cutL_small s d n0
  rw [← hr] at rs1 rs2
  have RLEN := hid (show r.1.length ≤ 1000 by omega)
  have FEWR := hid (show ∀ l ∈ r.1, l.length ≤ 35184372088832 from fun l hl' => by have := rs2 l hl'; omega)
  have HR := hid hr
  obtain ⟨sp, hsp⟩ : ∃ sp, sp = spanL n1 n2 n3 n0 := ⟨_, rfl⟩
  have HSP := hid hsp
  have SP1 := hid (fun W => lspan_any W n1 n2 n3 n0 h1 h2)
  have SP2 := hid (fun W => rspan_any W n1 n2 n3 n0 h1 h2)
  rw [← hsp] at SP1 SP2
  by_cases hbig : 7000 < d.length
  · clear hw0 ka k0 b1 b2 hl hr rs1 rs2 hsp hd h1 h2
    go_enter Try.func4, Try.ntmps4
    go_wp2_with fail
    rw [← HW0.out]
    refine A1.out.mono ?_
    rintro e w1 ⟨rfl, k1⟩
    have K1 := hid (K0.out.trans k1)
    clear k1
    go_wp2_with fail
    go_ret
    exact ⟨rfl, K1.out⟩
  clear hw0 ka k0 b1 b2 hr rs1 rs2 hsp hd h1 h2
  go_enter Try.func4, Try.ntmps4
  go_wp2_with fail
  rw [← HW0.out]
  refine A1.out.mono ?_
  rintro e w1 ⟨rfl, k1⟩
  have K1 := hid (K0.out.trans k1)
  have G1 := hid (show w1.rangeAt w.heap.size 0 s.cells from fun i u hu => k1.cell (G0.out i u hu) (by simp))
  have N1 := hid (show w1.rangeAt (w.heap.size + 1) 0 [.int .i64 n0, .int .i64 n1, .int .i64 n2, .int .i64 n3] from fun i u hu => k1.cell (N0.out i u hu) (by simp))
  have HD1 := hid (HD0.out.keep k1 (by intro _ _ _ _ _; simp))
  have c0 := N1.out 0 _ rfl
  rw [Nat.zero_add] at c0
  clear k1 A1 HW0 G0 N0 HD0 K0
  go_wp2_with (first | (refine wpList_isW rfl _ _ (exec_load _ _ _ _ rfl rfl (loadSpe _ w.heap.size 0 s G1.out)) ?_) | fail)
  clear c0
  have HC := lCut_any w1 s _ d n0 HD1.out (by omega)
  rw [← HR.out] at HC
  refine HC.mono ?_
  clear HC
  intro e w2 hx
  obtain ⟨k2, la, lc, rfl, lr⟩ := cutpost_rs hx RLEN.out
  clear hx
  have K2 := hid (K1.out.trans k2)
  have G2 := hid (show w2.rangeAt w.heap.size 0 s.cells from fun i u hu => k2.cell (G1.out i u hu) (by simp))
  have N2 := hid (show w2.rangeAt (w.heap.size + 1) 0 [.int .i64 n0, .int .i64 n1, .int .i64 n2, .int .i64 n3] from fun i u hu => k2.cell (N1.out i u hu) (by simp))
  have HD2 := hid (HD1.out.keep k2 (by intro _ _ _ _ _; simp))
  have LR2 := hid lr
  clear k2 lr K1 G1 N1 HD1
  go_wp2_with (first | (refine wpList_isW rfl _ _ (exec_load _ _ _ _ rfl rfl (loadSpe _ w.heap.size 0 s G2.out)) ?_) | fail)
  have HC := rCut_any w2 s _ d n0 HD2.out (by omega)
  rw [← HR.out] at HC
  refine HC.mono ?_
  clear HC
  rintro e w3 ⟨k3, kaa, kc, rfl, kr⟩
  have K3 := hid (K2.out.trans k3)
  have G3 := hid (show w3.rangeAt w.heap.size 0 s.cells from fun i u hu => k3.cell (G2.out i u hu) (by simp))
  have N3 := hid (show w3.rangeAt (w.heap.size + 1) 0 [.int .i64 n0, .int .i64 n1, .int .i64 n2, .int .i64 n3] from fun i u hu => k3.cell (N2.out i u hu) (by simp))
  have LR3 := hid (LR2.out.keep k3)
  have KR3 := hid kr
  have c1 := N3.out 1 _ rfl
  have c2 := N3.out 2 _ rfl
  have c3 := N3.out 3 _ rfl
  rw [Nat.zero_add] at c1 c2 c3
  clear k3 kr K2 G2 N2 HD2 LR2
  go_wp2_with fail
  refine (SP1.out w3).mono ?_
  unfold SpanPost
  rintro e w5 ⟨rfl, k5⟩
  have c1 := k5.cell (N3.out 1 _ rfl) (by simp)
  have c2 := k5.cell (N3.out 2 _ rfl) (by simp)
  have c3 := k5.cell (N3.out 3 _ rfl) (by simp)
  rw [Nat.zero_add] at c1 c2 c3
  have K5 := hid k5
  clear k5
  go_wp2_with fail
  refine (SP2.out w5).mono ?_
  unfold SpanPost
  rintro e w6 ⟨rfl, k6⟩
  have k36 := K5.out.trans k6
  have K6 := hid (K3.out.trans k36)
  have LR := hid (LR3.out.keep k36)
  have KR := hid (KR3.out.keep k36)
  have SG := hid (show w6.rangeAt w.heap.size 0 s.cells from fun i u hu => k36.cell (G3.out i u hu) (by simp))
  have NG := hid (show w6.rangeAt (w.heap.size + 1) 0 [.int .i64 n0, .int .i64 n1, .int .i64 n2, .int .i64 n3] from fun i u hu => k36.cell (N3.out i u hu) (by simp))
  have LB1 := hid (show w.heap.size < w6.heap.size from World.block_lt_of_cell? _ _ (SG.out 0 _ rfl))
  have LB2 := hid (show w.heap.size + 1 < w6.heap.size from World.block_lt_of_cell? _ _ (NG.out 0 _ rfl))
  have fS := hid (show ∀ W1, KpS [] w6.heap.size w6.drew W1 → W1.rangeAt w.heap.size 0 s.cells from fun W1 h i v hv => h.cell (by rw [World.cell?_drew]; exact SG.out i v hv) LB1.out (by simp))
  have fN1 := hid (show ∀ W1, KpS [] w6.heap.size w6.drew W1 → W1.cell? ⟨w.heap.size + 1, 1, none⟩ = some (.int .i64 n1) from fun W1 h => h.cell (by rw [World.cell?_drew]; have := NG.out 1 _ rfl; rw [Nat.zero_add] at this; exact this) LB2.out (by simp))
  have fN2 := hid (show ∀ W1, KpS [] w6.heap.size w6.drew W1 → W1.cell? ⟨w.heap.size + 1, 2, none⟩ = some (.int .i64 n2) from fun W1 h => h.cell (by rw [World.cell?_drew]; have := NG.out 2 _ rfl; rw [Nat.zero_add] at this; exact this) LB2.out (by simp))
  obtain ⟨ka, hka⟩ : ∃ x, x = kaa := ⟨_, rfl⟩
  rw [← hka] at KR ⊢
  clear k6 k36 c1 c2 c3 hka K5 K3 LR3 KR3 G3 N3
  go_wp2_with fail
  refine wp_region_any (by kernel_rfl) (wpAny_of_held (S := KpS [] w6.heap.size w6.drew) _ _ _ _ ?_)
  change wpAnyH _ _ _ _ _ _ _ _ w6.drew
  have s0 : KpS [] w6.heap.size w6.drew w6.drew := KpS.refl _ _ _
  refine held_take (i := 0) (v := .int .i64 r.2) rfl (by kernel_rfl) (by kernel_rfl) (by kernel_rfl) (fun _ _ _ h => h) rfl (fun W1 hW1 => by go_simp) (s0) ?_
  simp only [Act.put, List.setIfInBounds_toArray, List.set_cons_zero, List.set_cons_succ]
  refine held_take (i := 1) (v := .int .i64 r.2) rfl (by kernel_rfl) (by kernel_rfl) (by kernel_rfl) (fun _ _ _ h => h) rfl (fun W1 hW1 => by go_simp) (s0) ?_
  simp only [Act.put, List.setIfInBounds_toArray, List.set_cons_zero, List.set_cons_succ]
  refine held_take (i := 2) (v := .bool true) rfl (by kernel_rfl) (by kernel_rfl) (by kernel_rfl) (fun _ _ _ h => h) rfl (fun W1 hW1 => by go_simp) (s0) ?_
  simp only [Act.put, List.setIfInBounds_toArray, List.set_cons_zero, List.set_cons_succ]
  refine held_take (i := 3) (v := .bool true) rfl (by kernel_rfl) (by kernel_rfl) (by kernel_rfl) (fun _ _ _ h => h) rfl (fun W1 hW1 => rfl) (s0) ?_
  simp only [Act.put, List.setIfInBounds_toArray, List.set_cons_zero, List.set_cons_succ]
  refine held_takeW (i := 4) (v := .slice la r.1.length lc) rfl (by kernel_rfl) (by kernel_rfl) (by kernel_rfl) (fun _ _ _ h => h) rfl (fun W1 hW1 => rfl) (s0) ?_
  simp only [Act.put, List.setIfInBounds_toArray, List.set_cons_zero, List.set_cons_succ]
  refine held_takeW (i := 5) (v := .slice ka r.1.length kc) rfl (by kernel_rfl) (by kernel_rfl) (by kernel_rfl) (fun _ _ _ h => h) rfl (fun W1 hW1 => rfl) (s0) ?_
  simp only [Act.put, List.setIfInBounds_toArray, List.set_cons_zero, List.set_cons_succ]
  refine held_doW (i := 6) (by kernel_rfl) rfl rfl (wp_enter (f := 24) (args := #[.slice la r.1.length lc, .slice ka r.1.length kc]) (by go_simp) (lRowsB_any _ _ _ r.1 (LR.out.keep ((Keeps.refl [] w6).drew)) (KR.out.keep ((Keeps.refl [] w6).drew)) FEWR.out RLEN.out) ?_)
  rintro e w7 ⟨rfl, q7, rfl⟩
  have kp7 : KpS [] w6.heap.size w6.drew (w6.drew.drewN q7) := KpS.keeps s0 ((Keeps.refl [] _).drewN q7) (Nat.le_refl _) (by simp)
  refine ⟨_, rfl, kp7, ?_⟩
  simp only [Act.put, List.setIfInBounds_toArray, List.set_cons_zero, List.set_cons_succ]
  refine held_take (i := 7) (v := .bool true) rfl (by kernel_rfl) (by kernel_rfl) (by kernel_rfl) (fun _ _ _ h => h) rfl (fun W1 hW1 => rfl) (kp7) ?_
  simp only [Act.put, List.setIfInBounds_toArray, List.set_cons_zero, List.set_cons_succ]
  refine held_take (i := 8) (v := .bool true) rfl (by kernel_rfl) (by kernel_rfl) (by kernel_rfl) (fun _ _ _ h => h) rfl (fun W1 hW1 => rfl) (kp7) ?_
  simp only [Act.put, List.setIfInBounds_toArray, List.set_cons_zero, List.set_cons_succ]
  refine held_takeW (i := 9) (v := .int .i64 sp.1) rfl (by kernel_rfl) (by kernel_rfl) (by kernel_rfl) (fun _ _ _ h => h) rfl (fun W1 hW1 => rfl) (kp7) ?_
  simp only [Act.put, List.setIfInBounds_toArray, List.set_cons_zero, List.set_cons_succ]
  refine held_takeW (i := 10) (v := .int .i64 sp.1) rfl (by kernel_rfl) (by kernel_rfl) (by kernel_rfl) (fun _ _ _ h => h) rfl (fun W1 hW1 => rfl) (kp7) ?_
  simp only [Act.put, List.setIfInBounds_toArray, List.set_cons_zero, List.set_cons_succ]
  refine held_takeW (i := 11) (v := .bool true) rfl (by kernel_rfl) (by kernel_rfl) (by kernel_rfl) (fun _ _ _ h => h) rfl (fun W1 hW1 => by go_simp) (kp7) ?_
  simp only [Act.put, List.setIfInBounds_toArray, List.set_cons_zero, List.set_cons_succ]
  refine held_take (i := 12) (v := .bool true) rfl (by kernel_rfl) (by kernel_rfl) (by kernel_rfl) (fun _ _ _ h => h) rfl (fun W1 hW1 => rfl) (kp7) ?_
  simp only [Act.put, List.setIfInBounds_toArray, List.set_cons_zero, List.set_cons_succ]
  refine held_take (i := 13) (v := .bool true) rfl (by kernel_rfl) (by kernel_rfl) (by kernel_rfl) (fun _ _ _ h => h) rfl (fun W1 hW1 => rfl) (kp7) ?_
  simp only [Act.put, List.setIfInBounds_toArray, List.set_cons_zero, List.set_cons_succ]
  refine held_takeW (i := 14) (v := .int .i64 sp.2.1) rfl (by kernel_rfl) (by kernel_rfl) (by kernel_rfl) (fun _ _ _ h => h) rfl (fun W1 hW1 => rfl) (kp7) ?_
  simp only [Act.put, List.setIfInBounds_toArray, List.set_cons_zero, List.set_cons_succ]
  refine held_takeW (i := 15) (v := .int .i64 sp.2.1) rfl (by kernel_rfl) (by kernel_rfl) (by kernel_rfl) (fun _ _ _ h => h) rfl (fun W1 hW1 => rfl) (kp7) ?_
  simp only [Act.put, List.setIfInBounds_toArray, List.set_cons_zero, List.set_cons_succ]
  refine held_takeW (i := 16) (v := .bool true) rfl (by kernel_rfl) (by kernel_rfl) (by kernel_rfl) (fun _ _ _ h => h) rfl (fun W1 hW1 => by go_simp) (kp7) ?_
  simp only [Act.put, List.setIfInBounds_toArray, List.set_cons_zero, List.set_cons_succ]
  refine held_take (i := 17) (v := .bool true) rfl (by kernel_rfl) (by kernel_rfl) (by kernel_rfl) (fun _ _ _ h => h) rfl (fun W1 hW1 => rfl) (kp7) ?_
  simp only [Act.put, List.setIfInBounds_toArray, List.set_cons_zero, List.set_cons_succ]
  refine held_take (i := 18) (v := .bool true) rfl (by kernel_rfl) (by kernel_rfl) (by kernel_rfl) (fun _ _ _ h => h) rfl (fun W1 hW1 => rfl) (kp7) ?_
  simp only [Act.put, List.setIfInBounds_toArray, List.set_cons_zero, List.set_cons_succ]
  refine held_takeW (i := 19) (v := .int .i64 sp.2.2) rfl (by kernel_rfl) (by kernel_rfl) (by kernel_rfl) (fun _ _ _ h => h) rfl (fun W1 hW1 => rfl) (kp7) ?_
  simp only [Act.put, List.setIfInBounds_toArray, List.set_cons_zero, List.set_cons_succ]
  refine held_takeW (i := 20) (v := .int .i64 sp.2.2) rfl (by kernel_rfl) (by kernel_rfl) (by kernel_rfl) (fun _ _ _ h => h) rfl (fun W1 hW1 => rfl) (kp7) ?_
  simp only [Act.put, List.setIfInBounds_toArray, List.set_cons_zero, List.set_cons_succ]
  refine held_takeW (i := 21) (v := .bool true) rfl (by kernel_rfl) (by kernel_rfl) (by kernel_rfl) (fun _ _ _ h => h) rfl (fun W1 hW1 => by go_simp) (kp7) ?_
  simp only [Act.put, List.setIfInBounds_toArray, List.set_cons_zero, List.set_cons_succ]
  refine held_take (i := 22) (v := .bool true) rfl (by kernel_rfl) (by kernel_rfl) (by kernel_rfl) (fun _ _ _ h => h) rfl (fun W1 hW1 => rfl) (kp7) ?_
  simp only [Act.put, List.setIfInBounds_toArray, List.set_cons_zero, List.set_cons_succ]
  refine held_take (i := 23) (v := .bool true) rfl (by kernel_rfl) (by kernel_rfl) (by kernel_rfl) (fun _ _ _ h => h) rfl (fun W1 hW1 => rfl) (kp7) ?_
  simp only [Act.put, List.setIfInBounds_toArray, List.set_cons_zero, List.set_cons_succ]
  refine held_takeW (i := 24) (v := .pointer (some ⟨w.heap.size + 1, 1, none⟩)) rfl (by kernel_rfl) (by kernel_rfl) (by kernel_rfl) (fun _ _ _ h => h) rfl (fun W1 hW1 => by go_simp) (kp7) ?_
  simp only [Act.put, List.setIfInBounds_toArray, List.set_cons_zero, List.set_cons_succ]
  refine held_takeW (i := 25) (v := .int .i64 n1) rfl (by kernel_rfl) (by kernel_rfl) (by kernel_rfl) (fun _ _ _ h => h) rfl (fun W1 hW1 => exec_load _ _ _ _ rfl rfl (run_loadCell W1 _ _ _ (fN1.out W1 hW1) (agg_no _ (by kernel_rfl)))) (kp7) ?_
  simp only [Act.put, List.setIfInBounds_toArray, List.set_cons_zero, List.set_cons_succ]
  refine held_takeW (i := 26) (v := .int .i64 n0) rfl (by kernel_rfl) (by kernel_rfl) (by kernel_rfl) (fun _ _ _ h => h) rfl (fun W1 hW1 => rfl) (kp7) ?_
  simp only [Act.put, List.setIfInBounds_toArray, List.set_cons_zero, List.set_cons_succ]
  refine held_takeW (i := 28) (v := .pointer (some ⟨w.heap.size + 1, 1, none⟩)) rfl (by kernel_rfl) (by kernel_rfl) (by kernel_rfl) (fun _ _ _ h => h) rfl (fun W1 hW1 => by go_simp) (kp7) ?_
  simp only [Act.put, List.setIfInBounds_toArray, List.set_cons_zero, List.set_cons_succ]
  refine held_takeW (i := 29) (v := .int .i64 n1) rfl (by kernel_rfl) (by kernel_rfl) (by kernel_rfl) (fun _ _ _ h => h) rfl (fun W1 hW1 => exec_load _ _ _ _ rfl rfl (run_loadCell W1 _ _ _ (fN1.out W1 hW1) (agg_no _ (by kernel_rfl)))) (kp7) ?_
  simp only [Act.put, List.setIfInBounds_toArray, List.set_cons_zero, List.set_cons_succ]
  refine held_takeW (i := 30) (v := .int .i64 n0) rfl (by kernel_rfl) (by kernel_rfl) (by kernel_rfl) (fun _ _ _ h => h) rfl (fun W1 hW1 => rfl) (kp7) ?_
  simp only [Act.put, List.setIfInBounds_toArray, List.set_cons_zero, List.set_cons_succ]
  refine held_doW (i := 27) (by kernel_rfl) rfl rfl (wp_enter (f := 20) (args := #[.int .i64 n1, .int .i64 n0]) (by go_simp) (leach_as _ n1 n0 B1.out) ?_)
  rintro e w8 ⟨rfl, rfl⟩
  refine ⟨_, rfl, kp7, ?_⟩
  simp only [Act.put, List.setIfInBounds_toArray, List.set_cons_zero, List.set_cons_succ]
  refine held_doW (i := 31) (by kernel_rfl) rfl rfl (wp_enter (f := 25) (args := #[.int .i64 n1, .int .i64 n0]) (by go_simp) (reach_as _ n1 n0 B1.out) ?_)
  rintro e w8 ⟨rfl, rfl⟩
  refine ⟨_, rfl, kp7, ?_⟩
  simp only [Act.put, List.setIfInBounds_toArray, List.set_cons_zero, List.set_cons_succ]
  refine held_takeW (i := 32) (v := .bool true) rfl (by kernel_rfl) (by kernel_rfl) (by kernel_rfl) (fun _ _ _ h => h) rfl (fun W1 hW1 => by go_simp) (kp7) ?_
  simp only [Act.put, List.setIfInBounds_toArray, List.set_cons_zero, List.set_cons_succ]
  refine held_take (i := 33) (v := .bool true) rfl (by kernel_rfl) (by kernel_rfl) (by kernel_rfl) (fun _ _ _ h => h) rfl (fun W1 hW1 => rfl) (kp7) ?_
  simp only [Act.put, List.setIfInBounds_toArray, List.set_cons_zero, List.set_cons_succ]
  refine held_take (i := 34) (v := .bool true) rfl (by kernel_rfl) (by kernel_rfl) (by kernel_rfl) (fun _ _ _ h => h) rfl (fun W1 hW1 => rfl) (kp7) ?_
  simp only [Act.put, List.setIfInBounds_toArray, List.set_cons_zero, List.set_cons_succ]
  refine held_takeW (i := 35) (v := .agg #[.int .i64 s.c, .int .i64 s.l, .int .i64 s.n]) rfl (by kernel_rfl) (by kernel_rfl) (by kernel_rfl) (fun _ _ _ h => h) rfl (fun W1 hW1 => exec_load _ _ _ _ rfl rfl (loadSpe W1 w.heap.size 0 s (fS.out W1 hW1))) (kp7) ?_
  simp only [Act.put, List.setIfInBounds_toArray, List.set_cons_zero, List.set_cons_succ]
  refine held_takeW (i := 36) (v := .pointer (some ⟨w.heap.size + 1, 2, none⟩)) rfl (by kernel_rfl) (by kernel_rfl) (by kernel_rfl) (fun _ _ _ h => h) rfl (fun W1 hW1 => by go_simp) (kp7) ?_
  simp only [Act.put, List.setIfInBounds_toArray, List.set_cons_zero, List.set_cons_succ]
  refine held_takeW (i := 37) (v := .int .i64 n2) rfl (by kernel_rfl) (by kernel_rfl) (by kernel_rfl) (fun _ _ _ h => h) rfl (fun W1 hW1 => exec_load _ _ _ _ rfl rfl (run_loadCell W1 _ _ _ (fN2.out W1 hW1) (agg_no _ (by kernel_rfl)))) (kp7) ?_
  simp only [Act.put, List.setIfInBounds_toArray, List.set_cons_zero, List.set_cons_succ]
  refine held_takeW (i := 38) (v := .int .i64 n0) rfl (by kernel_rfl) (by kernel_rfl) (by kernel_rfl) (fun _ _ _ h => h) rfl (fun W1 hW1 => rfl) (kp7) ?_
  simp only [Act.put, List.setIfInBounds_toArray, List.set_cons_zero, List.set_cons_succ]
  refine held_takeW (i := 40) (v := .agg #[.int .i64 s.c, .int .i64 s.l, .int .i64 s.n]) rfl (by kernel_rfl) (by kernel_rfl) (by kernel_rfl) (fun _ _ _ h => h) rfl (fun W1 hW1 => exec_load _ _ _ _ rfl rfl (loadSpe W1 w.heap.size 0 s (fS.out W1 hW1))) (kp7) ?_
  simp only [Act.put, List.setIfInBounds_toArray, List.set_cons_zero, List.set_cons_succ]
  refine held_takeW (i := 41) (v := .pointer (some ⟨w.heap.size + 1, 2, none⟩)) rfl (by kernel_rfl) (by kernel_rfl) (by kernel_rfl) (fun _ _ _ h => h) rfl (fun W1 hW1 => by go_simp) (kp7) ?_
  simp only [Act.put, List.setIfInBounds_toArray, List.set_cons_zero, List.set_cons_succ]
  refine held_takeW (i := 42) (v := .int .i64 n2) rfl (by kernel_rfl) (by kernel_rfl) (by kernel_rfl) (fun _ _ _ h => h) rfl (fun W1 hW1 => exec_load _ _ _ _ rfl rfl (run_loadCell W1 _ _ _ (fN2.out W1 hW1) (agg_no _ (by kernel_rfl)))) (kp7) ?_
  simp only [Act.put, List.setIfInBounds_toArray, List.set_cons_zero, List.set_cons_succ]
  refine held_takeW (i := 43) (v := .int .i64 n0) rfl (by kernel_rfl) (by kernel_rfl) (by kernel_rfl) (fun _ _ _ h => h) rfl (fun W1 hW1 => rfl) (kp7) ?_
  simp only [Act.put, List.setIfInBounds_toArray, List.set_cons_zero, List.set_cons_succ]
  refine held_doW (i := 39) (by kernel_rfl) rfl rfl (wp_enter (f := 21) (args := #[.agg #[.int .i64 s.c, .int .i64 s.l, .int .i64 s.n], .int .i64 n2, .int .i64 n0]) (by go_simp) (lplace_any _ s n2 n0) ?_)
  rintro e w9 ⟨rfl, k9⟩
  have kp9 : KpS [] w6.heap.size w6.drew w9 := KpS.keeps kp7 k9 (by simp) (by simp)
  refine ⟨_, rfl, kp9, ?_⟩
  simp only [Act.put, List.setIfInBounds_toArray, List.set_cons_zero, List.set_cons_succ]
  refine held_doW (i := 44) (by kernel_rfl) rfl rfl (wp_enter (f := 26) (args := #[.agg #[.int .i64 s.c, .int .i64 s.l, .int .i64 s.n], .int .i64 n2, .int .i64 n0]) (by go_simp) (rplace_any _ s n2 n0) ?_)
  rintro e w10 ⟨rfl, k10⟩
  have kpA : KpS [] w6.heap.size w6.drew w10 := KpS.keeps kp9 k10 (by have := k9.size; simp at this; omega) (by simp)
  refine ⟨_, rfl, kpA, ?_⟩
  simp only [Act.put, List.setIfInBounds_toArray, List.set_cons_zero, List.set_cons_succ]
  refine held_takeW (i := 45) (v := .bool true) rfl (by kernel_rfl) (by kernel_rfl) (by kernel_rfl) (fun _ _ _ h => h) rfl (fun W1 hW1 => by go_simp) (kpA) ?_
  simp only [Act.put, List.setIfInBounds_toArray, List.set_cons_zero, List.set_cons_succ]
  refine held_take (i := 46) (v := .bool true) rfl (by kernel_rfl) (by kernel_rfl) (by kernel_rfl) (fun _ _ _ h => h) rfl (fun W1 hW1 => rfl) (kpA) ?_
  simp only [Act.put, List.setIfInBounds_toArray, List.set_cons_zero, List.set_cons_succ]
  refine held_take (i := 47) (v := .bool true) rfl (by kernel_rfl) (by kernel_rfl) (by kernel_rfl) (fun _ _ _ h => h) rfl (fun W1 hW1 => exec_asg _ rfl rfl) (kpA) ?_
  simp only [Act.put, List.setIfInBounds_toArray, List.set_cons_zero, List.set_cons_succ]
  refine wpAnyH_done (by kernel_rfl) ?_ _
  have KK := hid (((Keeps.refl [] w6).drew.drewN q7).trans (k9.trans k10))
  clear s0 kp7 kp9 kpA k9 k10
  go_wp2_with fail
  go_ret
  exact ⟨rfl, K6.out.trans KK.out⟩
end Go.Proofs.Ytoglcohdanpciaa
