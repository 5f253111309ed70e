/- blocks: the laws' Looks. -/
import Derived.Test.YtamcllcjondcpaaBkZ
import Derived.Test.YtamcllcjondcpaaBkL
import Derived.Test.YtamcllcjondcpaaKitB
import Derived.Test.YtamcllcjondcpaaSame
namespace Go.Proofs.Ytamcllcjondcpaa
open Go.RowKit Go.Shelf
set_option maxRecDepth 100000
set_option linter.unusedSimpArgs false

theorem eqL_self (xs : List Pt) : eqL xs xs = true := by simp [eqL]
theorem eqP_self (x : Pt) : eqP x x = true := eqP_is.2 rfl

set_option maxHeartbeats 12800000 in
theorem lLooks_any {w : World} {M F : List Nat} {q p : Nat} {s : Bk} (h : BkAt w M q s) (hM : ∀ b ∈ M, b < w.heap.size) (hr : RkAt w p F s) :
    Calls Try.prog 12 #[.pointer (some ⟨q, 0, none⟩), .pointer (some ⟨p, 0, none⟩)] w fun e w' => e = .returned (.bool true) ∧ Keeps [] w w' := by
  have H := hid h
  have HR := hid hr
  have HM := hid hM
  have HG := hid h.good
  have HFW := hid hr.few
  have HPL := hid (show p < w.heap.size by obtain ⟨⟨v, hb, _⟩, _⟩ := hr; exact lt_of_block hb)
  obtain ⟨a, c, hb, _, _, _⟩ := hr.cells
  have HB := hid hb
  obtain ⟨c0, c1, f0, f1⟩ := two_cells hb
  have HC0 := hid c0
  have HC1 := hid c1
  have HWS := hid (bytes_same h.good)
  have HBL := hid (bytesB_len s)
  obtain ⟨ps, hps⟩ : ∃ l, l = s.L.filter keepZ := ⟨_, rfl⟩
  have HP := hid hps
  have HPS := hid (show ps.length ≤ 64 by rw [hps]; exact Nat.le_trans (filterZ_le _) hr.few)
  clear h hr hM hb c0 c1 f0 f1 hps
  have KD := hid ((Keeps.refl [] w).drew)
  go_enter Try.func12, Try.ntmps12
  go_wp2_with fail
  refine wp_region_any (by kernel_rfl) (wpAny_of_held (S := KpS [] w.heap.size w.drew) _ _ _ _ ?_)
  change wpAnyH _ _ _ _ _ _ _ _ w.drew
  have s0 : KpS [] w.heap.size w.drew w.drew := KpS.refl _ _ _
  have cA : ∀ W1, KpS [] w.heap.size w.drew W1 → W1.cell? ⟨p, 0, none⟩ = some (.int .i64 s.sz) := fun W1 h => h.cell (by rw [World.cell?_drew]; exact HC0.out) HPL.out (by simp)
  have cB : ∀ W1, KpS [] w.heap.size w.drew W1 → W1.cell? ⟨p, 1, none⟩ = some (.slice a s.L.length c) := fun W1 h => h.cell (by rw [World.cell?_drew]; exact HC1.out) HPL.out (by simp)
  refine held_take (i := 0) (v := .pointer (some ⟨q, 0, none⟩)) rfl (by kernel_rfl) (by kernel_rfl) (by kernel_rfl) (fun _ _ _ h => h) rfl (fun W1 hW1 => rfl) (KpS.refl _ _ _) ?_
  simp only [Act.put, List.setIfInBounds_toArray, List.set_cons_zero, List.set_cons_succ]
  refine held_take (i := 2) (v := .pointer (some ⟨p, 0, none⟩)) rfl (by kernel_rfl) (by kernel_rfl) (by kernel_rfl) (fun _ _ _ h => h) rfl (fun W1 hW1 => rfl) (KpS.refl _ _ _) ?_
  simp only [Act.put, List.setIfInBounds_toArray, List.set_cons_zero, List.set_cons_succ]
  refine held_take (i := 3) (v := .pointer (some ⟨p, 0, none⟩)) rfl (by kernel_rfl) (by kernel_rfl) (by kernel_rfl) (fun _ _ _ h => h) rfl (fun W1 hW1 => by go_simp) (KpS.refl _ _ _) ?_
  simp only [Act.put, List.setIfInBounds_toArray, List.set_cons_zero, List.set_cons_succ]
  refine held_take (i := 4) (v := .pointer (some ⟨p, 0, none⟩)) rfl (by kernel_rfl) (by kernel_rfl) (by kernel_rfl) (fun _ _ _ h => h) rfl (fun W1 hW1 => by go_simp) (KpS.refl _ _ _) ?_
  simp only [Act.put, List.setIfInBounds_toArray, List.set_cons_zero, List.set_cons_succ]
  refine held_take (i := 5) (v := .int .i64 s.sz) rfl (by kernel_rfl) (by kernel_rfl) (by kernel_rfl) (fun _ _ _ h => h) rfl (fun W1 hW1 => exec_load _ _ _ _ rfl rfl (run_loadCell W1 _ _ _ (cA W1 hW1) (agg_no _ (by kernel_rfl)))) (KpS.refl _ _ _) ?_
  simp only [Act.put, List.setIfInBounds_toArray, List.set_cons_zero, List.set_cons_succ]
  refine held_do (i := 1) (by kernel_rfl) rfl rfl (wp_enter (f := 30) (args := #[.pointer (some ⟨q, 0, none⟩)]) (by go_simp) (zSize_any (H.out.later KD.out)) ?_)
  rintro e _ ⟨rfl, rfl⟩
  refine ⟨_, rfl, s0, ?_⟩
  simp only [Act.put, List.setIfInBounds_toArray, List.set_cons_zero, List.set_cons_succ]
  refine held_take (i := 6) (v := .bool false) rfl (by kernel_rfl) (by kernel_rfl) (by kernel_rfl) (fun _ _ _ h => h) rfl (fun W1 hW1 => by go_simp) (KpS.refl _ _ _) ?_
  simp only [Act.put, List.setIfInBounds_toArray, List.set_cons_zero, List.set_cons_succ]
  refine held_take (i := 7) (v := .bool false) rfl (by kernel_rfl) (by kernel_rfl) (by kernel_rfl) (fun _ _ _ h => h) rfl (fun W1 hW1 => by go_simp) (KpS.refl _ _ _) ?_
  simp only [Act.put, List.setIfInBounds_toArray, List.set_cons_zero, List.set_cons_succ]
  refine held_takeW (i := 8) (v := .pointer (some ⟨q, 0, none⟩)) rfl (by kernel_rfl) (by kernel_rfl) (by kernel_rfl) (fun _ _ _ h => h) rfl (fun W1 hW1 => by go_simp) (KpS.refl _ _ _) ?_
  simp only [Act.put, List.setIfInBounds_toArray, List.set_cons_zero, List.set_cons_succ]
  refine held_takeW (i := 10) (v := .pointer (some ⟨p, 0, none⟩)) rfl (by kernel_rfl) (by kernel_rfl) (by kernel_rfl) (fun _ _ _ h => h) rfl (fun W1 hW1 => by go_simp) (KpS.refl _ _ _) ?_
  simp only [Act.put, List.setIfInBounds_toArray, List.set_cons_zero, List.set_cons_succ]
  refine held_takeW (i := 11) (v := .pointer (some ⟨p, 0, none⟩)) rfl (by kernel_rfl) (by kernel_rfl) (by kernel_rfl) (fun _ _ _ h => h) rfl (fun W1 hW1 => by go_simp) (KpS.refl _ _ _) ?_
  simp only [Act.put, List.setIfInBounds_toArray, List.set_cons_zero, List.set_cons_succ]
  refine held_takeW (i := 12) (v := .pointer (some ⟨p, 1, none⟩)) rfl (by kernel_rfl) (by kernel_rfl) (by kernel_rfl) (fun _ _ _ h => h) rfl (fun W1 hW1 => by go_simp) (KpS.refl _ _ _) ?_
  simp only [Act.put, List.setIfInBounds_toArray, List.set_cons_zero, List.set_cons_succ]
  refine held_takeW (i := 13) (v := .slice a s.L.length c) rfl (by kernel_rfl) (by kernel_rfl) (by kernel_rfl) (fun _ _ _ h => h) rfl (fun W1 hW1 => exec_load _ _ _ _ rfl rfl (run_loadCell W1 _ _ _ (cB W1 hW1) (agg_no _ (by kernel_rfl)))) (KpS.refl _ _ _) ?_
  simp only [Act.put, List.setIfInBounds_toArray, List.set_cons_zero, List.set_cons_succ]
  refine held_takeW (i := 14) (v := .int .i64 (s.L.length : Int)) rfl (by kernel_rfl) (by kernel_rfl) (by kernel_rfl) (fun _ _ _ h => h) rfl (fun W1 hW1 => by go_simp) (KpS.refl _ _ _) ?_
  simp only [Act.put, List.setIfInBounds_toArray, List.set_cons_zero, List.set_cons_succ]
  refine held_doW (i := 9) (by kernel_rfl) rfl rfl (wp_enter (f := 31) (args := #[.pointer (some ⟨q, 0, none⟩)]) (by go_simp) (zCount_any (H.out.later KD.out)) ?_)
  rintro e _ ⟨rfl, rfl⟩
  refine ⟨_, rfl, s0, ?_⟩
  simp only [Act.put, List.setIfInBounds_toArray, List.set_cons_zero, List.set_cons_succ]
  refine held_takeW (i := 15) (v := .bool false) rfl (by kernel_rfl) (by kernel_rfl) (by kernel_rfl) (fun _ _ _ h => h) rfl (fun W1 hW1 => by go_simp) (KpS.refl _ _ _) ?_
  simp only [Act.put, List.setIfInBounds_toArray, List.set_cons_zero, List.set_cons_succ]
  refine held_take (i := 16) (v := .bool false) rfl (by kernel_rfl) (by kernel_rfl) (by kernel_rfl) (fun _ _ _ h => h) rfl (fun W1 hW1 => by go_simp) (KpS.refl _ _ _) ?_
  simp only [Act.put, List.setIfInBounds_toArray, List.set_cons_zero, List.set_cons_succ]
  refine held_take (i := 17) (v := .bool false) rfl (by kernel_rfl) (by kernel_rfl) (by kernel_rfl) (fun _ _ _ h => h) rfl (fun W1 hW1 => by go_simp) (KpS.refl _ _ _) ?_
  simp only [Act.put, List.setIfInBounds_toArray, List.set_cons_zero, List.set_cons_succ]
  refine held_takeW (i := 18) (v := .pointer (some ⟨q, 0, none⟩)) rfl (by kernel_rfl) (by kernel_rfl) (by kernel_rfl) (fun _ _ _ h => h) rfl (fun W1 hW1 => by go_simp) (KpS.refl _ _ _) ?_
  simp only [Act.put, List.setIfInBounds_toArray, List.set_cons_zero, List.set_cons_succ]
  refine held_takeW (i := 20) (v := .pointer (some ⟨p, 0, none⟩)) rfl (by kernel_rfl) (by kernel_rfl) (by kernel_rfl) (fun _ _ _ h => h) rfl (fun W1 hW1 => by go_simp) (KpS.refl _ _ _) ?_
  simp only [Act.put, List.setIfInBounds_toArray, List.set_cons_zero, List.set_cons_succ]
  refine held_doW (i := 19) (by kernel_rfl) rfl rfl (wp_enter (f := 45) (args := #[.pointer (some ⟨q, 0, none⟩)]) (by go_simp) (zPtrs_any (H.out.later KD.out) HM.out) ?_)
  rw [← HP.out]
  rintro e w2 ⟨a2, c2, rfl, o2, k2⟩
  have s2 : KpS [] w.heap.size w.drew w2 := s0.keeps k2 s0.size (by simp)
  have O2 := hid o2.at
  have K2 := hid (KD.out.trans k2)
  clear o2 k2
  refine ⟨_, rfl, s2, ?_⟩
  simp only [Act.put, List.setIfInBounds_toArray, List.set_cons_zero, List.set_cons_succ]
  refine held_doW (i := 21) (by kernel_rfl) rfl rfl (wp_enter (f := 46) (args := #[.pointer (some ⟨p, 0, none⟩)]) (by go_simp) (rPtrs_any (HR.out.later K2.out)) ?_)
  rw [← HP.out]
  rintro e w3 ⟨a3, c3, rfl, o3, k3⟩
  have s3 : KpS [] w.heap.size w.drew w3 := s2.keeps k3 s2.size (by simp)
  have O3 := hid o3.at
  have V3 := hid (O2.out.later k3)
  have K3 := hid (K2.out.trans k3)
  clear o3 k3
  refine ⟨_, rfl, s3, ?_⟩
  simp only [Act.put, List.setIfInBounds_toArray, List.set_cons_zero, List.set_cons_succ]
  refine held_doW (i := 22) (by kernel_rfl) rfl rfl (wp_enter (f := 44) (args := #[.slice a2 ps.length c2, .slice a3 ps.length c3]) (by go_simp) (lPtrs_any w3 M [] _ _ ps ps V3.out O3.out (by have := HPS.out; omega) (by have := HPS.out; omega)) ?_)
  rw [eqL_self]
  rintro e w4 ⟨rfl, k4⟩
  have s4 : KpS [] w.heap.size w.drew w4 := s3.keeps k4 s3.size (by simp)
  have K4 := hid (K3.out.trans k4)
  clear k4
  refine ⟨_, rfl, s4, ?_⟩
  simp only [Act.put, List.setIfInBounds_toArray, List.set_cons_zero, List.set_cons_succ]
  refine held_takeW (i := 23) (v := .bool false) rfl (by kernel_rfl) (by kernel_rfl) (by kernel_rfl) (fun _ _ _ h => h) rfl (fun W1 hW1 => by go_simp) (s4) ?_
  simp only [Act.put, List.setIfInBounds_toArray, List.set_cons_zero, List.set_cons_succ]
  refine held_take (i := 24) (v := .bool false) rfl (by kernel_rfl) (by kernel_rfl) (by kernel_rfl) (fun _ _ _ h => h) rfl (fun W1 hW1 => by go_simp) (s4) ?_
  simp only [Act.put, List.setIfInBounds_toArray, List.set_cons_zero, List.set_cons_succ]
  refine wpAnyH_done (by kernel_rfl) ?_ _
  clear cA cB s0 s2 s3 s4
  go_wp2_with fail
  go_loopw [5] (fun iv wr => ∃ k : Nat, k ≤ s.L.length + 2 ∧ iv = .int .i64 ((k : Int) - 1) ∧ Keeps [] w wr) (fun iv _ => s.L.length + 2 - (intOf iv + 1).toNat)
  case atStart => exact ⟨0, by omega, rfl, K4.out⟩
  case round =>
    obtain ⟨k, hk, rfl, hkp⟩ := hrel
    have KK := hid hkp
    have d1 := (two_cells ((hkp.block p HPL.out (by simp)).trans HB.out)).2.1
    clear hkp
    by_cases hlt : k < s.L.length + 2
    · have hk66 : k < 66 := by have := HFW.out; omega
      go_wp2_with fail
      refine (zAt_any (H.out.later KK.out) ((k : Int) - 1)).mono ?_
      obtain ⟨y, hy⟩ : ∃ y, y = atB s.L ((k : Int) - 1) := ⟨_, rfl⟩
      have HY := hid hy
      clear hy
      rw [← HY.out]
      rintro e w5 ⟨rfl, k5⟩
      have K5 := hid (KK.out.trans k5)
      clear k5
      go_wp2_with fail
      refine (rAt_any11 (HR.out.later K5.out) ((k : Int) - 1)).mono ?_
      rw [← HY.out]
      rintro e w6 ⟨rfl, k6⟩
      have K6 := hid (K5.out.trans k6)
      clear k6
      go_wp2_with (first | (refine wpList_isW rfl (.bool false) _ ((exec_neqPts _ _ _ y y rfl rfl rfl).trans (by rw [eqP_self]; rfl)) ?_) | fail)
      go_roundw
      case rel => exact ⟨k + 1, by omega, by go_num, K6.out⟩
      case measure => simp [intOf]; omega
    · obtain rfl : k = s.L.length + 2 := by omega
      go_wp2_with fail
      have P1 := hid (PenSince.new w KK.out 84)
      refine (rWrite_any11 (HR.out.later P1.out.kept) w.heap.size wr.heap.size (.slice none 0 0) ([], 0) P1.out.pen P1.out.kept.size (fun b hb hm => by
        have := HR.out.lt b hb
        have := KK.out.size
        simp [Value.ownBlock] at hm
        omega)).mono ?_
      intro e w2 hq
      obtain ⟨rfl, v2, q2⟩ := P1.out.step hq
      rw [HWS.out] at q2
      have P2 := hid q2
      have HBB := hid (lt_of_block q2.pen.blk)
      have b0 := (two_cells q2.pen.blk).1
      have RW := hid (row_of_own q2.pen.own q2.pen.byte)
      have B0 := hid b0
      clear q2 hq b0
      go_wp2_with fail
      refine wp_region_any (by kernel_rfl) (wpAny_of_held (S := KpS [] w2.heap.size w2.drew) _ _ _ _ ?_)
      change wpAnyH _ _ _ _ _ _ _ _ w2.drew
      have s0 : KpS [] w2.heap.size w2.drew w2.drew := KpS.refl _ _ _
      have cA : ∀ W1, KpS [] w2.heap.size w2.drew W1 → W1.cell? ⟨wr.heap.size, 0, none⟩ = some v2 := fun W1 h => h.cell (by rw [World.cell?_drew]; exact B0.out) HBB.out (by simp)
      refine held_take (i := 0) (v := .pointer (some ⟨q, 0, none⟩)) rfl (by kernel_rfl) (by kernel_rfl) (by kernel_rfl) (fun _ _ _ h => h) rfl (fun W1 hW1 => rfl) (KpS.refl _ _ _) ?_
      simp only [Act.put, List.setIfInBounds_toArray, List.set_cons_zero, List.set_cons_succ]
      refine held_take (i := 2) (v := .pointer (some ⟨wr.heap.size, 0, none⟩)) rfl (by kernel_rfl) (by kernel_rfl) (by kernel_rfl) (fun _ _ _ h => h) rfl (fun W1 hW1 => rfl) (KpS.refl _ _ _) ?_
      simp only [Act.put, List.setIfInBounds_toArray, List.set_cons_zero, List.set_cons_succ]
      refine held_take (i := 3) (v := .pointer (some ⟨wr.heap.size, 0, none⟩)) rfl (by kernel_rfl) (by kernel_rfl) (by kernel_rfl) (fun _ _ _ h => h) rfl (fun W1 hW1 => by go_simp) (KpS.refl _ _ _) ?_
      simp only [Act.put, List.setIfInBounds_toArray, List.set_cons_zero, List.set_cons_succ]
      refine held_take (i := 4) (v := .pointer (some ⟨wr.heap.size, 0, none⟩)) rfl (by kernel_rfl) (by kernel_rfl) (by kernel_rfl) (fun _ _ _ h => h) rfl (fun W1 hW1 => by go_simp) (KpS.refl _ _ _) ?_
      simp only [Act.put, List.setIfInBounds_toArray, List.set_cons_zero, List.set_cons_succ]
      refine held_take (i := 5) (v := v2) rfl (by kernel_rfl) (by kernel_rfl) (by kernel_rfl) (fun _ _ _ h => h) rfl (fun W1 hW1 => exec_load _ _ _ _ rfl rfl (run_loadCell W1 _ _ _ (cA W1 hW1) (agg_no _ (by kernel_rfl)))) (KpS.refl _ _ _) ?_
      simp only [Act.put, List.setIfInBounds_toArray, List.set_cons_zero, List.set_cons_succ]
      refine held_do (i := 1) (by kernel_rfl) rfl rfl (wp_enter (f := 17) (args := #[.pointer (some ⟨q, 0, none⟩)]) (by go_simp) (lBytes11_any (H.out.later P2.out.kept.drew)) ?_)
      rintro e w3 ⟨a3, c3, rfl, r3, _, k3⟩
      have s3 : KpS [] w2.heap.size w2.drew w3 := s0.keeps k3 s0.size (by simp)
      have R3 := hid r3
      have K3 := hid (P2.out.kept.drew.trans k3)
      have RV := hid (RW.out.keep (((Keeps.refl [] w2).drew).trans k3) (by intro _ _ _ _ _; simp))
      clear r3 k3
      refine ⟨_, rfl, s3, ?_⟩
      simp only [Act.put, List.setIfInBounds_toArray, List.set_cons_zero, List.set_cons_succ]
      refine held_do (i := 6) (by kernel_rfl) rfl rfl (wp_enter (f := 25) (args := #[.slice a3 (bytesB s).length c3, v2]) (by go_simp) (same_any w3 _ _ (bytesB s) (bytesB s) R3.out RV.out (by have := HBL.out; omega) (by have := HBL.out; omega)) ?_)
      rw [show decide (bytesB s = bytesB s) = true from decide_eq_true rfl]
      rintro e w4 ⟨rfl, n, rfl⟩
      have k4 : Keeps [] w3 (w3.drewN n) := Keeps.drewN (Keeps.refl [] w3) n
      have s4 : KpS [] w2.heap.size w2.drew (w3.drewN n) := s3.keeps k4 s3.size (by simp)
      have K4 := hid (K3.out.trans k4)
      refine ⟨_, rfl, s4, ?_⟩
      simp only [Act.put, List.setIfInBounds_toArray, List.set_cons_zero, List.set_cons_succ]
      refine held_take (i := 7) (v := .bool true) rfl (by kernel_rfl) (by kernel_rfl) (by kernel_rfl) (fun _ _ _ h => h) rfl (fun W1 hW1 => by go_simp) (s4) ?_
      simp only [Act.put, List.setIfInBounds_toArray, List.set_cons_zero, List.set_cons_succ]
      refine wpAnyH_done (by kernel_rfl) ?_ _
      clear cA s0 s3 s4 k4
      go_wp2_with fail
      go_ret
      exact ⟨rfl, K4.out⟩
end Go.Proofs.Ytamcllcjondcpaa
