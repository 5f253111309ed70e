/- tokens: TokensAlone's walk. -/
import Derived.Test.YteeagemlaolhjaaTkM
import Derived.Test.YteeagemlaolhjaaTkO
import Derived.BigQuiet
import Derived.Deep.CutRange
namespace Go.Proofs.Yteeagemlaolhjaa
open Go.RowKit Go.Shelf
set_option maxRecDepth 100000
set_option linter.unusedSimpArgs false
set_option linter.unusedVariables false

set_option maxHeartbeats 25600000 in
theorem alone15_any (w : World) (v : Value) (ds : List Rk) (hd : DdsAt w v ds) : Calls Try.prog 6 #[v] w (PB w true) := by
  obtain ⟨ad, cd, rfl⟩ := hd.shape
  have HD := hid hd
  clear hd
  go_enter Try.func6, Try.ntmps6
  go_wp2_with fail
  refine (awake15_any w).mono ?_
  rintro e w0 ⟨rfl, k0⟩
  have K0 := hid k0
  clear k0
  by_cases hbig : 150 < ds.length
  · have hb1 : decide ((150 : Int) < (ds.length : Int)) = true := by simp; omega
    have hb2 : (ds.length : Int) > 150 := by omega
    go_wp2_with fail
    go_ret
    exact ⟨rfl, K0.out⟩
  have hb1 : decide ((150 : Int) < (ds.length : Int)) = false := by simp; omega
  have hb2 : ds.length ≤ 150 := by omega
  clear hbig
  go_wp2_with fail
  refine (tkNew_any w0).mono ?_
  rintro e w1 ⟨rfl, t1, k1⟩
  obtain ⟨q, hq⟩ : ∃ q, q = w0.heap.size := ⟨_, rfl⟩
  have T1 := hid t1
  have K1 := hid (K0.out.trans k1)
  have HQ := hid t1.lt
  have HZ := hid K0.out.size
  rw [← hq] at T1 HQ HZ ⊢
  clear hq t1 k1 hb1
  go_wp2_with fail
  go_loopw [4, 5, 6, 7, 8] (fun iv _ _ _ _ wr => ∃ (i : Nat) (rs : List Rk), iv = .int .i64 (i : Int) ∧ i ≤ ds.length ∧ Hid (TokAt wr [q] q rs) ∧ Hid (GoodK rs) ∧ Hid (rs.length ≤ i) ∧ Hid (Keeps [] w wr) ∧ Hid (q < wr.heap.size)) (fun iv _ _ _ _ _ => ds.length - (intOf iv).toNat)
  case atStart => exact ⟨0, [], rfl, by omega, T1, hid GoodK.nil, hid (by simp), K1, HQ⟩
  case round =>
    obtain ⟨i, rs, rfl, hi, TT, GG, LL, KK, HQR⟩ := hrel
    rename World => wo
    by_cases hlt : i < ds.length
    · obtain ⟨gd, od, rfl, hgd, rd⟩ := (HD.out.keep KK.out).at hlt
      have hgd0 : gd < w.heap.size := by
        obtain ⟨g1, o1, e1, h1, _⟩ := HD.out.at hlt
        injection e1 with e1
        injection e1 with e1 _
        omega
      have hgq : gd ≠ q := by have := HZ.out; omega
      obtain ⟨x, hx⟩ : ∃ z, z = ds[i] := ⟨_, rfl⟩
      rw [← hx] at rd
      clear hx
      obtain ⟨dd, dc, dn, dw⟩ := x
      obtain ⟨d0, d1, d2, d3⟩ := rkrange_at rd
      simp only at d0 d1 d2 d3
      have D1 := hid d1
      have D2 := hid d2
      have D3 := hid d3
      have HGD := hid hgd
      have HGQ := hid hgq
      clear rd d1 d2 d3 hgd hgq hgd0
      go_upto_if 28 with fail
      go_cut [] from 17 to 161 (fun wx => ∃ rx : List Rk, Hid (TokAt wx [q] q rx) ∧ Hid (GoodK rx) ∧ Hid (rx.length ≤ i + 1) ∧ Hid (Keeps [] w wx) ∧ Hid (q < wx.heap.size))
      case first =>
       by_cases h4 : dd ≤ 4
       · have h4' : decide (dd ≤ 4) = true := decide_eq_true h4
         have RX := hid (GG.out.open dc dn dw)
         have LN := hid (openK_len rs dc dn dw)
         go_wp2_with fail
         refine wp_region_any (by kernel_rfl) (wpAny_of_held (S := KpS [q] wo.heap.size wo.drew) _ _ _ _ ?_)
         change wpAnyH _ _ _ _ _ _ _ _ wo.drew
         have L1 : ∀ W1, KpS [q] wo.heap.size wo.drew W1 → W1.cell? ⟨gd, od + i * 4 + 1, none⟩ = some (.int .i64 dc) := fun W1 h => h.cell (by rw [World.cell?_drew]; exact D1.out) HGD.out (by simpa using HGQ.out)
         have L2 : ∀ W1, KpS [q] wo.heap.size wo.drew W1 → W1.cell? ⟨gd, od + i * 4 + 2, none⟩ = some (.int .i64 dn) := fun W1 h => h.cell (by rw [World.cell?_drew]; exact D2.out) HGD.out (by simpa using HGQ.out)
         have L3 : ∀ W1, KpS [q] wo.heap.size wo.drew W1 → W1.cell? ⟨gd, od + i * 4 + 3, none⟩ = some (.bool dw) := fun W1 h => h.cell (by rw [World.cell?_drew]; exact D3.out) HGD.out (by simpa using HGQ.out)
         refine held_take (i := 0) (v := .pointer (some ⟨q, 0, none⟩)) rfl (by kernel_rfl) (by kernel_rfl) (by kernel_rfl) (fun _ _ _ h => h) rfl (fun W1 hW1 => rfl) (KpS.refl _ _ _) ?_
         simp only [Act.put, List.setIfInBounds_toArray, List.set_cons_zero, List.set_cons_succ]
         refine held_take (i := 1) (v := .slice (some ⟨gd, od, none⟩) ds.length cd) rfl (by kernel_rfl) (by kernel_rfl) (by kernel_rfl) (fun _ _ _ h => h) rfl (fun W1 hW1 => rfl) (KpS.refl _ _ _) ?_
         simp only [Act.put, List.setIfInBounds_toArray, List.set_cons_zero, List.set_cons_succ]
         refine held_take (i := 2) (v := .int .i64 (i : Int)) rfl (by kernel_rfl) (by kernel_rfl) (by kernel_rfl) (fun _ _ _ h => h) rfl (fun W1 hW1 => rfl) (KpS.refl _ _ _) ?_
         simp only [Act.put, List.setIfInBounds_toArray, List.set_cons_zero, List.set_cons_succ]
         refine held_take (i := 3) (v := .pointer (some ⟨gd, od + i * 4, none⟩)) rfl (by kernel_rfl) (by kernel_rfl) (by kernel_rfl) (fun _ _ _ h => h) rfl (fun W1 hW1 => by go_simp) (KpS.refl _ _ _) ?_
         simp only [Act.put, List.setIfInBounds_toArray, List.set_cons_zero, List.set_cons_succ]
         refine held_take (i := 4) (v := .pointer (some ⟨gd, od + i * 4 + 1, none⟩)) rfl (by kernel_rfl) (by kernel_rfl) (by kernel_rfl) (fun _ _ _ h => h) rfl (fun W1 hW1 => by go_simp) (KpS.refl _ _ _) ?_
         simp only [Act.put, List.setIfInBounds_toArray, List.set_cons_zero, List.set_cons_succ]
         refine held_take (i := 5) (v := .int .i64 dc) rfl (by kernel_rfl) (by kernel_rfl) (by kernel_rfl) (fun _ _ _ h => h) rfl (fun W1 hW1 => exec_load _ _ _ _ rfl rfl (run_loadCell W1 _ _ _ (L1 W1 hW1) (agg_no _ (by kernel_rfl)))) (KpS.refl _ _ _) ?_
         simp only [Act.put, List.setIfInBounds_toArray, List.set_cons_zero, List.set_cons_succ]
         refine held_take (i := 6) (v := .slice (some ⟨gd, od, none⟩) ds.length cd) rfl (by kernel_rfl) (by kernel_rfl) (by kernel_rfl) (fun _ _ _ h => h) rfl (fun W1 hW1 => rfl) (KpS.refl _ _ _) ?_
         simp only [Act.put, List.setIfInBounds_toArray, List.set_cons_zero, List.set_cons_succ]
         refine held_take (i := 7) (v := .int .i64 (i : Int)) rfl (by kernel_rfl) (by kernel_rfl) (by kernel_rfl) (fun _ _ _ h => h) rfl (fun W1 hW1 => rfl) (KpS.refl _ _ _) ?_
         simp only [Act.put, List.setIfInBounds_toArray, List.set_cons_zero, List.set_cons_succ]
         refine held_take (i := 8) (v := .pointer (some ⟨gd, od + i * 4, none⟩)) rfl (by kernel_rfl) (by kernel_rfl) (by kernel_rfl) (fun _ _ _ h => h) rfl (fun W1 hW1 => by go_simp) (KpS.refl _ _ _) ?_
         simp only [Act.put, List.setIfInBounds_toArray, List.set_cons_zero, List.set_cons_succ]
         refine held_take (i := 9) (v := .pointer (some ⟨gd, od + i * 4 + 2, none⟩)) rfl (by kernel_rfl) (by kernel_rfl) (by kernel_rfl) (fun _ _ _ h => h) rfl (fun W1 hW1 => by go_simp) (KpS.refl _ _ _) ?_
         simp only [Act.put, List.setIfInBounds_toArray, List.set_cons_zero, List.set_cons_succ]
         refine held_take (i := 10) (v := .int .i64 dn) rfl (by kernel_rfl) (by kernel_rfl) (by kernel_rfl) (fun _ _ _ h => h) rfl (fun W1 hW1 => exec_load _ _ _ _ rfl rfl (run_loadCell W1 _ _ _ (L2 W1 hW1) (agg_no _ (by kernel_rfl)))) (KpS.refl _ _ _) ?_
         simp only [Act.put, List.setIfInBounds_toArray, List.set_cons_zero, List.set_cons_succ]
         refine held_take (i := 11) (v := .slice (some ⟨gd, od, none⟩) ds.length cd) rfl (by kernel_rfl) (by kernel_rfl) (by kernel_rfl) (fun _ _ _ h => h) rfl (fun W1 hW1 => rfl) (KpS.refl _ _ _) ?_
         simp only [Act.put, List.setIfInBounds_toArray, List.set_cons_zero, List.set_cons_succ]
         refine held_take (i := 12) (v := .int .i64 (i : Int)) rfl (by kernel_rfl) (by kernel_rfl) (by kernel_rfl) (fun _ _ _ h => h) rfl (fun W1 hW1 => rfl) (KpS.refl _ _ _) ?_
         simp only [Act.put, List.setIfInBounds_toArray, List.set_cons_zero, List.set_cons_succ]
         refine held_take (i := 13) (v := .pointer (some ⟨gd, od + i * 4, none⟩)) rfl (by kernel_rfl) (by kernel_rfl) (by kernel_rfl) (fun _ _ _ h => h) rfl (fun W1 hW1 => by go_simp) (KpS.refl _ _ _) ?_
         simp only [Act.put, List.setIfInBounds_toArray, List.set_cons_zero, List.set_cons_succ]
         refine held_take (i := 14) (v := .pointer (some ⟨gd, od + i * 4 + 3, none⟩)) rfl (by kernel_rfl) (by kernel_rfl) (by kernel_rfl) (fun _ _ _ h => h) rfl (fun W1 hW1 => by go_simp) (KpS.refl _ _ _) ?_
         simp only [Act.put, List.setIfInBounds_toArray, List.set_cons_zero, List.set_cons_succ]
         refine held_take (i := 15) (v := .bool dw) rfl (by kernel_rfl) (by kernel_rfl) (by kernel_rfl) (fun _ _ _ h => h) rfl (fun W1 hW1 => exec_load _ _ _ _ rfl rfl (run_loadCell W1 _ _ _ (L3 W1 hW1) (agg_no _ (by kernel_rfl)))) (KpS.refl _ _ _) ?_
         simp only [Act.put, List.setIfInBounds_toArray, List.set_cons_zero, List.set_cons_succ]
         refine held_do (i := 16) (by kernel_rfl) rfl rfl (wp_enter (f := 10) (args := #[.pointer (some ⟨q, 0, none⟩), .int .i64 dc, .int .i64 dn, .bool dw]) (by go_simp) (open_any (TT.out.later (Keeps.refl [] wo).drew) (by simpa using HQR.out) dc dn dw (by have := LL.out; omega)) ?_)
         rintro e w2 ⟨rfl, t2, k2⟩
         have s2 : KpS [q] wo.heap.size wo.drew w2 := (KpS.refl _ _ _).keeps k2 (Nat.le_refl _) (by simp)
         refine ⟨_, rfl, s2, ?_⟩
         simp only [Act.put, List.setIfInBounds_toArray, List.set_cons_zero, List.set_cons_succ]
         refine wpAnyH_done (by kernel_rfl) ?_ _
         obtain ⟨rx, hrx⟩ : ∃ z, z = (openK rs dc dn dw).2 := ⟨_, rfl⟩
         rw [← hrx] at t2 RX LN
         have TX := hid t2
         have GX := hid RX.out
         have LX := hid (show rx.length ≤ i + 1 by have := LN.out; have := LL.out; omega)
         have k2' : Keeps [q] wo w2 := ((Keeps.refl [q] wo).drew).trans k2
         have KX := hid (keep_new KK.out k2' (by have := HZ.out; have := K0.out.size; omega))
         have HQX := hid (Nat.lt_of_lt_of_le HQR.out k2'.size)
         clear L1 L2 L3 t2 k2 k2' s2 hrx RX LN d0 h4' h4
         go_wp2_with fail
         go_meet
         exact ⟨rx, TX, GX, LX, KX, HQX⟩
       · have h4' : decide (dd ≤ 4) = false := decide_eq_false h4
         by_cases h6 : dd ≤ 6
         · have h6' : decide (dd ≤ 6) = true := decide_eq_true h6
           go_wp2_with fail
           refine wp_region_any (by kernel_rfl) (wpAny_of_held (S := KpS [q] wo.heap.size wo.drew) _ _ _ _ ?_)
           change wpAnyH _ _ _ _ _ _ _ _ wo.drew
           have L1 : ∀ W1, KpS [q] wo.heap.size wo.drew W1 → W1.cell? ⟨gd, od + i * 4 + 1, none⟩ = some (.int .i64 dc) := fun W1 h => h.cell (by rw [World.cell?_drew]; exact D1.out) HGD.out (by simpa using HGQ.out)
           have L2 : ∀ W1, KpS [q] wo.heap.size wo.drew W1 → W1.cell? ⟨gd, od + i * 4 + 2, none⟩ = some (.int .i64 dn) := fun W1 h => h.cell (by rw [World.cell?_drew]; exact D2.out) HGD.out (by simpa using HGQ.out)
           refine held_take (i := 0) (v := .pointer (some ⟨q, 0, none⟩)) rfl (by kernel_rfl) (by kernel_rfl) (by kernel_rfl) (fun _ _ _ h => h) rfl (fun W1 hW1 => rfl) (KpS.refl _ _ _) ?_
           simp only [Act.put, List.setIfInBounds_toArray, List.set_cons_zero, List.set_cons_succ]
           refine held_take (i := 1) (v := .slice (some ⟨gd, od, none⟩) ds.length cd) rfl (by kernel_rfl) (by kernel_rfl) (by kernel_rfl) (fun _ _ _ h => h) rfl (fun W1 hW1 => rfl) (KpS.refl _ _ _) ?_
           simp only [Act.put, List.setIfInBounds_toArray, List.set_cons_zero, List.set_cons_succ]
           refine held_take (i := 2) (v := .int .i64 (i : Int)) rfl (by kernel_rfl) (by kernel_rfl) (by kernel_rfl) (fun _ _ _ h => h) rfl (fun W1 hW1 => rfl) (KpS.refl _ _ _) ?_
           simp only [Act.put, List.setIfInBounds_toArray, List.set_cons_zero, List.set_cons_succ]
           refine held_take (i := 3) (v := .pointer (some ⟨gd, od + i * 4, none⟩)) rfl (by kernel_rfl) (by kernel_rfl) (by kernel_rfl) (fun _ _ _ h => h) rfl (fun W1 hW1 => by go_simp) (KpS.refl _ _ _) ?_
           simp only [Act.put, List.setIfInBounds_toArray, List.set_cons_zero, List.set_cons_succ]
           refine held_take (i := 4) (v := .pointer (some ⟨gd, od + i * 4 + 1, none⟩)) rfl (by kernel_rfl) (by kernel_rfl) (by kernel_rfl) (fun _ _ _ h => h) rfl (fun W1 hW1 => by go_simp) (KpS.refl _ _ _) ?_
           simp only [Act.put, List.setIfInBounds_toArray, List.set_cons_zero, List.set_cons_succ]
           refine held_take (i := 5) (v := .int .i64 dc) rfl (by kernel_rfl) (by kernel_rfl) (by kernel_rfl) (fun _ _ _ h => h) rfl (fun W1 hW1 => exec_load _ _ _ _ rfl rfl (run_loadCell W1 _ _ _ (L1 W1 hW1) (agg_no _ (by kernel_rfl)))) (KpS.refl _ _ _) ?_
           simp only [Act.put, List.setIfInBounds_toArray, List.set_cons_zero, List.set_cons_succ]
           refine held_take (i := 6) (v := .slice (some ⟨gd, od, none⟩) ds.length cd) rfl (by kernel_rfl) (by kernel_rfl) (by kernel_rfl) (fun _ _ _ h => h) rfl (fun W1 hW1 => rfl) (KpS.refl _ _ _) ?_
           simp only [Act.put, List.setIfInBounds_toArray, List.set_cons_zero, List.set_cons_succ]
           refine held_take (i := 7) (v := .int .i64 (i : Int)) rfl (by kernel_rfl) (by kernel_rfl) (by kernel_rfl) (fun _ _ _ h => h) rfl (fun W1 hW1 => rfl) (KpS.refl _ _ _) ?_
           simp only [Act.put, List.setIfInBounds_toArray, List.set_cons_zero, List.set_cons_succ]
           refine held_take (i := 8) (v := .pointer (some ⟨gd, od + i * 4, none⟩)) rfl (by kernel_rfl) (by kernel_rfl) (by kernel_rfl) (fun _ _ _ h => h) rfl (fun W1 hW1 => by go_simp) (KpS.refl _ _ _) ?_
           simp only [Act.put, List.setIfInBounds_toArray, List.set_cons_zero, List.set_cons_succ]
           refine held_take (i := 9) (v := .pointer (some ⟨gd, od + i * 4 + 2, none⟩)) rfl (by kernel_rfl) (by kernel_rfl) (by kernel_rfl) (fun _ _ _ h => h) rfl (fun W1 hW1 => by go_simp) (KpS.refl _ _ _) ?_
           simp only [Act.put, List.setIfInBounds_toArray, List.set_cons_zero, List.set_cons_succ]
           refine held_take (i := 10) (v := .int .i64 dn) rfl (by kernel_rfl) (by kernel_rfl) (by kernel_rfl) (fun _ _ _ h => h) rfl (fun W1 hW1 => exec_load _ _ _ _ rfl rfl (run_loadCell W1 _ _ _ (L2 W1 hW1) (agg_no _ (by kernel_rfl)))) (KpS.refl _ _ _) ?_
           simp only [Act.put, List.setIfInBounds_toArray, List.set_cons_zero, List.set_cons_succ]
           refine held_do (i := 11) (by kernel_rfl) rfl rfl (wp_enter (f := 11) (args := #[.pointer (some ⟨q, 0, none⟩), .int .i64 dc, .int .i64 dn]) (by go_simp) (close_any (TT.out.later (Keeps.refl [] wo).drew) (by simpa using HQR.out) dc dn) ?_)
           rintro e w2 ⟨rfl, t2, k2⟩
           have s2 : KpS [q] wo.heap.size wo.drew w2 := (KpS.refl _ _ _).keeps k2 (Nat.le_refl _) (by simp)
           refine ⟨_, rfl, s2, ?_⟩
           simp only [Act.put, List.setIfInBounds_toArray, List.set_cons_zero, List.set_cons_succ]
           refine wpAnyH_done (by kernel_rfl) ?_ _
           have RX := hid (GG.out.filter (keepK (atK dc dn)))
           have LN := hid (List.length_filter_le (keepK (atK dc dn)) rs)
           obtain ⟨rx, hrx⟩ : ∃ z, z = rs.filter (keepK (atK dc dn)) := ⟨_, rfl⟩
           rw [← hrx] at t2 RX LN
           have TX := hid t2
           have GX := hid RX.out
           have LX := hid (show rx.length ≤ i + 1 by have := LN.out; have := LL.out; omega)
           have k2' : Keeps [q] wo w2 := ((Keeps.refl [q] wo).drew).trans k2
           have KX := hid (keep_new KK.out k2' (by have := HZ.out; have := K0.out.size; omega))
           have HQX := hid (Nat.lt_of_lt_of_le HQR.out k2'.size)
           clear L1 L2 t2 k2 k2' s2 hrx RX LN d0 h4' h4 h6 h6'
           go_wp2_with fail
           go_meet
           exact ⟨rx, TX, GX, LX, KX, HQX⟩
         · have h6' : decide (dd ≤ 6) = false := decide_eq_false h6
           obtain ⟨rx, hrx⟩ : ∃ z, z = rs := ⟨_, rfl⟩
           have TX := TT
           have GX := GG
           have LX := hid (show rs.length ≤ i + 1 by have := LL.out; omega)
           have KX := KK
           have HQX := HQR
           rw [← hrx] at TX GX LX
           clear hrx
           go_wp2_with fail
           clear d0 h4' h4 h6 h6'
           go_meet
           exact ⟨rx, TX, GX, LX, KX, HQX⟩
      case rest =>
        obtain ⟨rx, TX, GX, LX, KX, HQX⟩ := hcut
        clear d0 D1 D2 D3 TT GG LL KK HQR
        go_wp2_with fail
        refine (rowsF_any TX.out [] (by simp)).mono ?_
        rintro e w5 ⟨ar, cr, rfl, o5, k5⟩
        have K5 := hid (KX.out.trans k5)
        have T5 := hid (TX.out.later k5)
        have R5 := hid o5.at
        have HQ5 := hid (Nat.lt_of_lt_of_le HQX.out k5.size)
        clear o5 k5
        have hrx : rx.length ≤ 151 := by have := LX.out; omega
        go_wp2_with fail
        go_loopw [6, 7, 8] (fun av _ _ wr => ∃ (a m : Nat), av = .int .i64 (a : Int) ∧ a ≤ rx.length ∧ wr = w5.drewN m) (fun av _ _ _ => rx.length - (intOf av).toNat)
        case atStart => exact ⟨0, 0, rfl, by omega, rfl⟩
        case round =>
          obtain ⟨a, m, rfl, ha, hwr⟩ := hrel
          have HWR := hid hwr
          have kwr : Keeps [] w5 wr := by rw [hwr]; exact (Keeps.refl [] w5).drewN m
          have KWR := hid kwr
          have RR := hid (R5.out.later kwr)
          clear hwr kwr
          by_cases hlt : a < rx.length
          · go_wp2_with fail
            rename World => wp
            go_loopw [7, 8] (fun mv bv wr => ∃ (b m2 : Nat), bv = .int .i64 (b : Int) ∧ b ≤ rx.length ∧ mv = .int .i64 ((mineK rx rx[a].c b : Nat) : Int) ∧ wr = wp.drewN m2) (fun _ bv _ => rx.length - (intOf bv).toNat)
            case atStart => exact ⟨0, 0, rfl, by omega, rfl, rfl⟩
            case round =>
              obtain ⟨b, m2, rfl, hb, rfl, hwr⟩ := hrel
              have HWR2 := hid hwr
              have kwr : Keeps [] wp wr := by rw [hwr]; exact (Keeps.refl [] wp).drewN m2
              have RR2 := hid (RR.out.later kwr)
              have KW2 := hid (KWR.out.trans kwr)
              clear hwr kwr
              obtain ⟨g, off, rfl, _, hcap, hg, hgM, hr⟩ := RR2.out.open (by omega)
              have RA0 := range_rk hr a hlt
              have mle := GX.out.mine rx[a].c b
              by_cases hlb : b < rx.length
              · have RB0 := range_rk hr b hlb
                have MS := hid (mineK_succ (c := rx[a].c) hlb)
                have AP := hid (fun h => GX.out.apart hlt hlb (i := a) (j := b) h)
                obtain ⟨mm, hmm⟩ : ∃ z, z = mineK rx rx[a].c b := ⟨_, rfl⟩
                rw [← hmm] at mle MS ⊢
                obtain ⟨m1, hm1⟩ : ∃ z, z = mineK rx rx[a].c (b + 1) := ⟨_, rfl⟩
                rw [← hm1] at MS
                have HM1 := hid hm1
                obtain ⟨x, hx⟩ : ∃ z, z = rx[a] := ⟨_, rfl⟩
                obtain ⟨y, hy⟩ : ∃ z, z = rx[b]'hlb := ⟨_, rfl⟩
                have HX := hid hx
                rw [← hx] at RA0 AP MS
                rw [← hy] at RB0 AP MS
                obtain ⟨xc, xh, xn, xb⟩ := x
                obtain ⟨yc, yh, yn, yb⟩ := y
                obtain ⟨a0, a1, a2, a3⟩ := rkrange_at RA0
                obtain ⟨b0, b1, b2, b3⟩ := rkrange_at RB0
                simp only at a0 a1 a2 a3 b0 b1 b2 b3 AP MS
                have HLB := hid hlb
                clear hmm hm1 hx hy RA0 RB0 hr hcap hg hgM
                by_cases hab : a = b
                · have e1 : ((a : Int) == (b : Int)) = true := by simp [hab]
                  have e2 : ((a : Int) != (b : Int)) = false := by simp [hab]
                  by_cases hc : yc = xc
                  · have f1 : (yc == xc) = true := by simp [hc]
                    have EQC := hid (if_pos hc : (if yc = xc then 1 else 0) = 1)
                    clear hab hc
                    go_wp2_with fail
                    go_quiet (fail)
                    go_wp2_with fail
                    go_quiet (fail)
                    go_wp2_with fail
                    go_roundw
                    case rel =>
                      refine ⟨b + 1, _, by go_num, by have := HLB.out; omega, ?_, by rw [HWR2.out, World.drewN_drewN]⟩
                      rw [← HM1.out, MS.out, EQC.out]
                      first | rfl | go_num
                    case measure => have := HLB.out; simp [intOf]; omega
                  · have f1 : (yc == xc) = false := by simp [hc]
                    have EQC := hid (if_neg hc : (if yc = xc then 1 else 0) = 0)
                    clear hab hc
                    go_wp2_with fail
                    go_quiet (fail)
                    go_wp2_with fail
                    go_quiet (fail)
                    go_wp2_with fail
                    go_roundw
                    case rel =>
                      refine ⟨b + 1, _, by go_num, by have := HLB.out; omega, ?_, by rw [HWR2.out, World.drewN_drewN]⟩
                      rw [← HM1.out, MS.out, EQC.out]
                      first | rfl | go_num
                    case measure => have := HLB.out; simp [intOf]; omega
                · have e1 : ((a : Int) == (b : Int)) = false := by simp; omega
                  have e2 : ((a : Int) != (b : Int)) = true := by simp; omega
                  have AB := AP.out hab
                  by_cases hn : xn = yn
                  · have f2 : (xn == yn) = true := by simp [hn]
                    obtain ⟨rfl, rfl⟩ := AB.2 hn
                    by_cases hc : yc = xc
                    · have f1 : (yc == xc) = true := by simp [hc]
                      have f3 : (xc == yc) = true := by simp [hc]
                      have f4 : (xh == yh) = false := by have := AB.1 hc.symm; simpa using this
                      have EQC := hid (if_pos hc : (if yc = xc then 1 else 0) = 1)
                      clear hab hc hn AB
                      go_wp2_with fail
                      go_quiet (fail)
                      go_wp2_with fail
                      go_quiet (fail)
                      go_wp2_with fail
                      go_roundw
                      case rel =>
                        refine ⟨b + 1, _, by go_num, by have := HLB.out; omega, ?_, by rw [HWR2.out, World.drewN_drewN]⟩
                        rw [← HM1.out, MS.out, EQC.out]
                        first | rfl | go_num
                      case measure => have := HLB.out; simp [intOf]; omega
                    · have f1 : (yc == xc) = false := by simp [hc]
                      have f3 : (xc == yc) = false := by simp; exact fun e => hc e.symm
                      have EQC := hid (if_neg hc : (if yc = xc then 1 else 0) = 0)
                      clear hab hc hn AB
                      go_wp2_with fail
                      go_quiet (fail)
                      go_wp2_with fail
                      go_quiet (fail)
                      go_wp2_with fail
                      go_roundw
                      case rel =>
                        refine ⟨b + 1, _, by go_num, by have := HLB.out; omega, ?_, by rw [HWR2.out, World.drewN_drewN]⟩
                        rw [← HM1.out, MS.out, EQC.out]
                        first | rfl | go_num
                      case measure => have := HLB.out; simp [intOf]; omega
                  · have f2 : (xn == yn) = false := by simp [hn]
                    by_cases hc : yc = xc
                    · have f1 : (yc == xc) = true := by simp [hc]
                      have f3 : (xc == yc) = true := by simp [hc]
                      have f4 : (xh == yh) = false := by have := AB.1 hc.symm; simpa using this
                      have EQC := hid (if_pos hc : (if yc = xc then 1 else 0) = 1)
                      clear hab hc hn AB
                      go_wp2_with fail
                      go_quiet (fail)
                      go_wp2_with fail
                      go_quiet (fail)
                      go_wp2_with fail
                      go_roundw
                      case rel =>
                        refine ⟨b + 1, _, by go_num, by have := HLB.out; omega, ?_, by rw [HWR2.out, World.drewN_drewN]⟩
                        rw [← HM1.out, MS.out, EQC.out]
                        first | rfl | go_num
                      case measure => have := HLB.out; simp [intOf]; omega
                    · have f1 : (yc == xc) = false := by simp [hc]
                      have f3 : (xc == yc) = false := by simp; exact fun e => hc e.symm
                      have EQC := hid (if_neg hc : (if yc = xc then 1 else 0) = 0)
                      clear hab hc hn AB
                      go_wp2_with fail
                      go_quiet (fail)
                      go_wp2_with fail
                      go_quiet (fail)
                      go_wp2_with fail
                      go_roundw
                      case rel =>
                        refine ⟨b + 1, _, by go_num, by have := HLB.out; omega, ?_, by rw [HWR2.out, World.drewN_drewN]⟩
                        rw [← HM1.out, MS.out, EQC.out]
                        first | rfl | go_num
                      case measure => have := HLB.out; simp [intOf]; omega
              · obtain rfl : b = rx.length := by omega
                obtain ⟨x, hx⟩ : ∃ z, z = rx[a] := ⟨_, rfl⟩
                have mayx : mayK x = true := by rw [hx]; exact GX.out.may _ (List.getElem_mem _)
                rw [← hx] at RA0 mle ⊢
                obtain ⟨mm, hmm⟩ : ∃ z, z = mineK rx x.c rx.length := ⟨_, rfl⟩
                rw [← hmm] at mle ⊢
                obtain ⟨xc, xh, xn, xb⟩ := x
                obtain ⟨a0, a1, a2, a3⟩ := rkrange_at RA0
                unfold mayK at mayx
                simp only [Bool.and_eq_true, btwK_is] at mayx a1
                have d1 : decide ((4 : Int) < (mm : Int)) = false := by simp; omega
                have d2 : decide ((4 : Int) ≤ xh) = false := by simp; omega
                have HLT := hid hlt
                clear a0 a2 a3 RA0 hr hcap hg hgM hmm hx mayx
                go_wp2_with fail
                go_roundw
                case rel => exact ⟨a + 1, m + m2, by go_num, by have := HLT.out; omega, by rw [HWR2.out, HWR.out, World.drewN_drewN]⟩
                case measure => have := HLT.out; simp [intOf]; omega
          · obtain rfl : a = rx.length := by omega
            go_wp2_with fail
            go_roundw
            case rel => exact ⟨i + 1, rx, by go_num, by omega, hid (T5.out.later KWR.out), GX, LX, hid (K5.out.trans KWR.out), hid (Nat.lt_of_lt_of_le HQ5.out KWR.out.size)⟩
            case measure => simp [intOf]; omega
    · obtain rfl : i = ds.length := by omega
      go_wp2_with fail
      go_ret
      exact ⟨rfl, KK.out⟩
end Go.Proofs.Yteeagemlaolhjaa
