/- layout: the walk of the law LayoutPlaces. -/
import Derived.Test.YtoglcohdanpciaaLyJ6
namespace Go.Proofs.Ytoglcohdanpciaa
open Go.RowKit Go.Shelf
set_option maxRecDepth 100000
set_option linter.unusedSimpArgs false
set_option linter.unusedVariables false

set_option maxHeartbeats 12800000 in
theorem yPlaces_any (w : World) (m : Int) (hm : -9223372036854775808 ≤ m ∧ m ≤ 9223372036854775807) : Calls Try.prog 9 #[.int .i64 m] w fun e w' => e = .returned (.bool true) ∧ Keeps [] w w' := by
  have A1 := hid (yAwake_any w)
  obtain ⟨n, hn⟩ : ∃ n : Nat, 3 + m % 14 = (n : Int) := ⟨(3 + m % 14).toNat, by omega⟩
  have n3 : 3 ≤ n := by omega
  have n16 : n ≤ 16 := by omega
  obtain ⟨hmay, sn0, sn1⟩ := speM_may m
  have cb := and64 m 3 3 rfl (by decide)
  have sc0 : 0 ≤ (speM m).c := cb.1
  have sc1 : (speM m).c ≤ 3 := cb.2
  have SM := hid (fun W => yStripe_any W m hm)
  have SV := hid (fun W => yServers_any W m)
  obtain ⟨s, hs⟩ : ∃ s, s = speM m := ⟨_, rfl⟩
  rw [← hs] at SM sn0 sn1 sc0 sc1
  rw [hn] at SV
  clear hn hm hs cb hmay
  go_enter Try.func9, Try.ntmps9
  go_wp2_with fail
  refine A1.out.mono ?_
  rintro e w1 ⟨rfl, k1⟩
  have K1 := hid k1
  clear k1
  go_wp2_with fail
  refine (SV.out w1).mono ?_
  rintro e w2 ⟨rfl, rfl⟩
  go_wp2_with fail
  refine (SM.out w1).mono ?_
  rintro e w2 ⟨rfl, k2⟩
  have K2 := hid (K1.out.trans k2)
  clear k2
  unfold speV
  obtain ⟨w3, hw3⟩ : ∃ x, x = w2.alloc (.cells #[.int .i64 s.c, .int .i64 s.l, .int .i64 s.n] 30) := ⟨_, rfl⟩
  have HW3 := hid hw3
  have k3 : Keeps [] w2 w3 := by rw [hw3]; exact (Keeps.refl [] _).alloc _
  have G3 := hid (show w3.rangeAt w2.heap.size 0 s.cells by rw [hw3]; exact range_cells (heap_alloc_new w2 _))
  have S3 := hid (show w3.heap.size = w2.heap.size + 1 by rw [hw3]; exact World.size_alloc _ _)
  have K3 := hid (K2.out.trans k3)
  clear hw3 k3
  go_wp2_with (first | (rw [← HW3.out]; refine wpList_is rfl _ _ (exec_makeBools _ n rfl rfl n16) ?_) | fail)
  obtain ⟨a, ha⟩ : ∃ a : Nat, s.n + s.c = (a : Int) := ⟨(s.n + s.c).toNat, by omega⟩
  have HA := hid ha
  clear ha
  obtain ⟨g, hg⟩ : ∃ g, g = w3.heap.size := ⟨_, rfl⟩
  have HG0 := hid hg
  obtain ⟨w4, hw4⟩ : ∃ x, x = w3.alloc (.cells (Array.replicate n (Value.bool false)) 4) := ⟨_, rfl⟩
  have HW4 := hid hw4
  have k4 : Keeps [] w3 w4 := by rw [hw4]; exact (Keeps.refl [] _).alloc _
  have B4 := hid (show w4.heap[g]? = some (.cells (((seenL n (plN (a + (n - 1)) n) 0).map Value.bool).toArray) 4 (0, 0)) by rw [hw4, hg, ← bools_none]; exact heap_alloc_new w3 _)
  have G4 := hid (show w4.rangeAt w2.heap.size 0 s.cells from fun i u hu => k4.cell (G3.out i u hu) (by simp))
  have K4 := hid (K3.out.trans k4)
  have GW := hid (show w.heap.size ≤ g ∧ w2.heap.size < g by have := K3.out.size; have := S3.out; omega)
  rw [← HG0.out, ← HW4.out]
  obtain ⟨b, hb⟩ : ∃ b, b = w2.heap.size := ⟨_, rfl⟩
  rw [← hb] at G4 GW ⊢
  clear hw4 k4 hg hb HW3 G3 S3 HG0 HW4 K3 K2
  go_loopw [6] (fun iv wr => ∃ (k : Nat), k ≤ n ∧ iv = .int .i64 (k : Int) ∧ Hid (wr.heap[g]? = some (.cells (((seenL n (plN (a + (n - 1)) n) k).map Value.bool).toArray) 4 (0, 0))) ∧ Hid (wr.rangeAt b 0 s.cells) ∧ Hid (Keeps [] w wr)) (fun iv _ => n - (intOf iv).toNat)
  case atStart => exact ⟨0, by omega, rfl, B4, G4, K4⟩
  case round =>
    obtain ⟨k, hk, rfl, HB, HS, HK⟩ := hrel
    by_cases hlt : k < n
    · have LG := hid (lt_of_block HB.out)
      have cn0 := HS.out 2 _ rfl
      rw [Nat.zero_add] at cn0
      have cn := ((Keeps.refl [] wr).alloc (.cells #[.int .i64 s.c, .int .i64 s.l, .int .i64 s.n] 30)).cell cn0 (by simp)
      go_wp2_with (first | (refine wpList_isW rfl _ _ (exec_load _ _ _ _ rfl rfl (loadSpe _ b 0 s HS.out)) ?_) | fail)
      obtain ⟨w5, hw5⟩ : ∃ x, x = wr.alloc (.cells #[.int .i64 s.c, .int .i64 s.l, .int .i64 (s.n + k)] 30) := ⟨_, rfl⟩
      have HW5 := hid hw5
      have k5 : Keeps [] wr w5 := by rw [hw5]; exact (Keeps.refl [] _).alloc _
      have X5 := hid (show w5.rangeAt wr.heap.size 0 (⟨s.c, s.l, s.n + k⟩ : Spe).cells by rw [hw5]; exact range_cells (heap_alloc_new wr _))
      have S5 := hid (show w5.heap.size = wr.heap.size + 1 by rw [hw5]; exact World.size_alloc _ _)
      rw [← HW5.out]
      have HP0 := lplace_any w5 ⟨s.c, s.l, s.n + k⟩ ((n : Int) - 1) n
      have hpl : placeI ⟨s.c, s.l, s.n + k⟩ ((n : Int) - 1) n = (plN (a + (n - 1)) n k : Nat) := by
        have := place_is (s := ⟨s.c, s.l, s.n + k⟩) (a := a + k) (by have := HA.out; simp only; omega) n3 n16 (n - 1)
        rw [show ((n - 1 : Nat) : Int) = (n : Int) - 1 by omega] at this
        rw [this]
        unfold plN
        congr 2
        omega
      rw [hpl] at HP0
      have hplt : plN (a + (n - 1)) n k < n := plN_lt n3
      have hcell := seenL_get (n := n) (f := plN (a + (n - 1)) n) (k := k) hplt (fun j hj => plN_ne hj hlt)
      have hset := seenL_set (n := n) (f := plN (a + (n - 1)) n) (k := k)
      obtain ⟨p, hp⟩ : ∃ p, p = plN (a + (n - 1)) n k := ⟨_, rfl⟩
      rw [← hp] at HP0 hplt hcell hset
      have HP := hid HP0
      have HSET := hid hset
      have HCELL := hid hcell
      have B5 := hid ((k5.block g LG.out (by simp)).trans HB.out)
      have HS5 := hid (show w5.rangeAt b 0 s.cells from fun i u hu => k5.cell (HS.out i u hu) (by simp))
      have HK5 := hid (HK.out.trans k5)
      have LR := hid (show g < wr.heap.size from LG.out)
      clear cn cn0 hw5 k5 hpl HP0 hcell hset hp HS HB HK
      refine HP.out.mono ?_
      clear HP
      rintro e w6 ⟨rfl, k6⟩
      have B6 := hid ((k6.block g (by have := S5.out; have := LR.out; omega) (by simp)).trans B5.out)
      have HS6 := hid (show w6.rangeAt b 0 s.cells from fun i u hu => k6.cell (HS5.out i u hu) (by simp))
      have X6 := hid (show w6.rangeAt wr.heap.size 0 (⟨s.c, s.l, s.n + k⟩ : Spe).cells from fun i u hu => k6.cell (X5.out i u hu) (by simp))
      have HK6 := hid (HK5.out.trans k6)
      obtain ⟨cp, fp⟩ := bools_at B6.out HCELL.out
      have BP := hid (bools_put (p := p) B6.out true)
      obtain ⟨w7, hw7⟩ : ∃ x, x = w6.setCell ⟨g, p, none⟩ (.bool true) := ⟨_, rfl⟩
      rw [← hw7] at BP
      have HW7 := hid hw7
      clear k6 hw7 HS5 X5 HK5 B5
      go_wp2_with (first | (rw [← HW7.out]; refine wpList_is rfl _ _ (exec_makeBools _ n rfl rfl n16) ?_) | fail)
      obtain ⟨h, hh⟩ : ∃ h, h = w7.heap.size := ⟨_, rfl⟩
      have sz67 : w7.heap.size = w6.heap.size := by rw [HW7.out]; simp
      obtain ⟨w8, hw8⟩ : ∃ x, x = w7.alloc (.cells (Array.replicate n (Value.bool false)) 4) := ⟨_, rfl⟩
      have HW8 := hid hw8
      have k8 : Keeps [] w7 w8 := by rw [hw8]; exact (Keeps.refl [] _).alloc _
      have LX : wr.heap.size < w6.heap.size := World.block_lt_of_cell? _ _ (X6.out 0 _ rfl)
      have LB : b < w6.heap.size := World.block_lt_of_cell? _ _ (HS6.out 0 _ rfl)
      have GW' := GW.out
      have LR' := LR.out
      have D8 := hid (show w8.heap[h]? = some (.cells (((seenL n (plN (a + k) n) 0).map Value.bool).toArray) 4 (0, 0)) by rw [hw8, hh, ← bools_none]; exact heap_alloc_new w7 _)
      have X8 := hid (show w8.rangeAt wr.heap.size 0 (⟨s.c, s.l, s.n + k⟩ : Spe).cells from fun i u hu => k8.cell (BP.out.2.cell (X6.out i u hu) (by simp; omega)) (by simp))
      have HS8 := hid (show w8.rangeAt b 0 s.cells from fun i u hu => k8.cell (BP.out.2.cell (HS6.out i u hu) (by simp; omega)) (by simp))
      have B8 := hid ((k8.block g (by rw [sz67]; omega) (by simp)).trans BP.out.1)
      have HK8 := hid ((HK6.out.trans' BP.out.2 (fun j hj hm => by simp at hm; subst hm; omega)).trans k8)
      have LH := hid (show wr.heap.size < h ∧ b < h ∧ g < h by rw [hh, sz67]; exact ⟨LX, LB, by omega⟩)
      have LH8 := hid (show h < w8.heap.size by rw [hw8, hh]; simp)
      rw [← hh, ← HW8.out]
      obtain ⟨bx, hbx⟩ : ∃ x, x = wr.heap.size := ⟨_, rfl⟩
      rw [← hbx] at X8 LH ⊢
      clear hbx hh hw8 sz67 k8 LX LB GW' LR' BP HW8 HW7 B6 HS6 X6 HK6 cp fp HCELL
      go_loopw [10] (fun iv wi => ∃ (i : Nat), i ≤ n ∧ iv = .int .i64 (i : Int) ∧ Hid (wi.heap[h]? = some (.cells (((seenL n (plN (a + k) n) i).map Value.bool).toArray) 4 (0, 0))) ∧ Hid (wi.rangeAt bx 0 (⟨s.c, s.l, s.n + k⟩ : Spe).cells) ∧ Hid (Keeps [h] w8 wi)) (fun iv _ => n - (intOf iv).toNat)
      case atStart => exact ⟨0, by omega, rfl, D8, X8, hid (Keeps.refl _ _)⟩
      case round =>
        obtain ⟨i, hi, rfl, HB, HX, HK⟩ := hrel
        by_cases hlti : i < n
        · have LG2 := hid (lt_of_block HB.out)
          have HQ0 := lplace_any wr ⟨s.c, s.l, s.n + k⟩ (i : Int) n
          rw [place_is (s := ⟨s.c, s.l, s.n + k⟩) (a := a + k) (by have := HA.out; simp only; omega) n3 n16 i] at HQ0
          have hplt2 : plN (a + k) n i < n := plN_lt n3
          have hcell := seenL_get (n := n) (f := plN (a + k) n) (k := i) hplt2 (fun j hj => plN_ne hj hlti)
          have hset := seenL_set (n := n) (f := plN (a + k) n) (k := i)
          obtain ⟨q, hq⟩ : ∃ q, q = plN (a + k) n i := ⟨_, rfl⟩
          rw [← hq] at HQ0 hplt2 hcell hset
          have HQ := hid HQ0
          have HSET2 := hid hset
          have HCELL := hid hcell
          clear HQ0 hcell hset hq
          go_wp2_with (first | (refine wpList_isW rfl _ _ (exec_load _ _ _ _ rfl rfl (loadSpe _ bx 0 ⟨s.c, s.l, s.n + k⟩ HX.out)) ?_) | fail)
          refine HQ.out.mono ?_
          clear HQ
          rintro e w9 ⟨rfl, k9⟩
          have B9 := hid ((k9.block h LG2.out (by simp)).trans HB.out)
          obtain ⟨cp, fp⟩ := bools_at B9.out HCELL.out
          have BP := hid (bools_put (p := q) B9.out true)
          have X9 := hid (show w9.rangeAt bx 0 (⟨s.c, s.l, s.n + k⟩ : Spe).cells from fun i u hu => k9.cell (HX.out i u hu) (by simp))
          have K9 := hid (HK.out.trans (k9.mono (by simp)))
          clear k9
          go_wp2_with fail
          go_roundw
          case rel =>
            refine ⟨i + 1, by omega, by go_num, hid (by rw [← HSET2.out]; exact BP.out.1), hid (fun j u hu => BP.out.2.cell (X9.out j u hu) (by have := LH.out; simp; omega)), hid (K9.out.trans BP.out.2)⟩
          case measure => simp [intOf]; omega
        · have hin : n = i := by omega
          subst hin
          have KE := HK.out
          have LH' := LH.out
          have RB := hid ((KE.block g (by have := LH8.out; omega) (by simp; omega)).trans B8.out)
          have RS := hid (show wr.rangeAt b 0 s.cells from fun j u hu => KE.cell (HS8.out j u hu) (by simp; omega))
          have RK := hid (HK8.out.trans' KE (fun j hj hm => by simp at hm; have := GW.out; omega))
          clear KE LH'
          go_wp2_with fail
          go_roundw
          case rel => exact ⟨k + 1, by omega, by go_num, hid (by rw [← HSET.out]; exact RB.out), RS, RK⟩
          case measure => simp [intOf]; omega
    · have hkn : n = k := by omega
      subst hkn
      go_wp2_with fail
      go_ret
      exact ⟨rfl, HK.out⟩
end Go.Proofs.Ytoglcohdanpciaa
