/- The walk of the law DiskLoads. -/
import Derived.Test.YtodjkgifbocjdaaDkV
namespace Go.Proofs.Ytodjkgifbocjdaa
open Go.RowKit

set_option maxRecDepth 100000 in
set_option maxHeartbeats 8000000 in
theorem loads_any (W : World) (u v : Value) (l k : List D4) (hl : D4sAt W u l) (hk : D4sAt W v k) :
    Calls Try.prog 7 #[u, v] W fun e w' => e = .returned (.bool true) ∧ Keeps [] W w' := by
  have HL := hid hl
  have HR := hid hk
  obtain ⟨la, lcap, rfl, _⟩ := hl
  obtain ⟨ra, rcap, rfl, _⟩ := hk
  go_enter Try.func7, Try.ntmps7
  go_wp2_with fail
  refine (awake4_any W).mono ?_
  rintro e w0 ⟨rfl, k0⟩
  have K0 := hid k0
  clear k0
  go_wp2_with fail
  refine (room4_any w0 _ l (HL.out.keep K0.out) 100).mono ?_
  rintro e _ ⟨rfl, rfl⟩
  by_cases hl1 : l.length ≤ 100
  · have e1 : decide ((l.length : Int) ≤ 100) = true := by simp; omega
    rw [e1]
    go_wp2_with fail
    refine (room4_any w0 _ k (HR.out.keep K0.out) 60).mono ?_
    rintro e _ ⟨rfl, rfl⟩
    by_cases hk1 : k.length ≤ 60
    · have e2 : decide ((k.length : Int) ≤ 60) = true := by simp; omega
      rw [e2]
      go_wp2_with fail
      refine (newAt_any 6 (by omega) (by omega) w0).mono ?_
      rintro e w1 ⟨p, F1, rfl, D1, l1, k1⟩
      have D1' := hid D1
      have L1 : Hid (∀ b ∈ F1, W.heap.size ≤ b) := fun b hb => by have := l1 b hb; have := K0.out.size; omega
      have K1 := hid (K0.out.trans k1)
      clear D1 l1 k1 K0
      go_wp2_with fail
      go_loopw [7] (fun v wr => ∃ (j : Nat) (s : DS) (F : List Nat), j ≤ l.length ∧ v = .int .i64 j ∧ DiskAt wr p s F (4 * j) ∧ LdOne s ∧ (∀ b ∈ F, W.heap.size ≤ b) ∧ Keeps [] W wr)
        (fun v _ => l.length - (intOf v).toNat)
      case atStart => exact ⟨0, _, F1, by omega, rfl, D1'.out, LdOne.start, L1.out, K1.out⟩
      case round =>
        obtain ⟨j, s, F, hj, rfl, hD, hF, hL, hK⟩ := hrel
        have DD := hid hD
        have FF := hid hF
        have LL := hid hL
        have KK := hid hK
        clear hD hF hL hK
        by_cases hlt : j < l.length
        · have hlt' : (j : Int) < (l.length : Int) := by omega
          obtain ⟨g, off, cap2, hv, hcap, hcs⟩ := HL.out.open (by omega)
          injection hv with hv _ hvc
          subst hv
          subst hvc
          obtain ⟨hrg, hok⟩ := hcs j hlt
          clear hcs
          obtain ⟨⟨A, N, C, L⟩, hdj⟩ : ∃ d, d = l[j] := ⟨_, rfl⟩
          rw [← hdj] at hrg hok
          have HOK := hid hok
          have hgW : g < W.heap.size := World.block_lt_of_cell? _ _ (hrg 0 _ rfl)
          have HGF : Hid (g ∉ F) := hid fun hm => by have := LL.out g hm; omega
          replace hrg : wr.rangeAt g (off + j * 4) (D4.cells ⟨A, N, C, L⟩) := fun q u hu => by
            rw [World.cell?_of_block (w := W) (KK.out.block _ hgW (by simp))]
            exact hrg q u hu
          have HRG := hid hrg
          have cA : wr.cell? ⟨g, off + j * 4, none⟩ = some (.int .i64 A) := hrg 0 _ rfl
          clear hrg hok hdj
          by_cases h7 : A ≤ 7
          · by_cases h5 : A = 5
            · have h5' : (A == 5) = true := by simp [h5]
              go_wp2_with fail
              go_roundw
              case rel => exact ⟨j + 1, s, F, by omega, by simp, DD.out.mono (by omega), FF.out, LL.out, KK.out⟩
              case measure => simp [intOf]; omega
            · have h5' : (A == 5) = false := by simp [h5]
              by_cases h4 : A ≤ 4
              · go_wp2_with fail
                refine wp_region_noPanic (wp_region_any (by kernel_rfl) (wpAny_of_held (S := KpS F wr.heap.size wr.drew) _ _ _ _ ?_))
                have kd : ∀ W1, KpS F wr.heap.size wr.drew W1 → Keeps F wr W1 := fun W1 h => ⟨h.os, h.tape, h.output, h.size, fun k hk hs => h.block k hk hs⟩
                have cN : ∀ W1, KpS F wr.heap.size wr.drew W1 → W1.rangeAt g (off + j * 4) (D4.cells ⟨A, N, C, L⟩) := fun W1 h q u hu => by
                  have hc := HRG.out q u hu
                  rw [World.cell?_of_block (w := wr) ((kd W1 h).block _ (World.block_lt_of_cell? _ _ hc) HGF.out)]
                  exact hc
                refine held_take (i := 0) (v := .pointer (some ⟨p, 0, none⟩)) rfl (by kernel_rfl) (by kernel_rfl) (by kernel_rfl) (fun _ _ _ h => h) rfl (fun W1 hW1 => rfl) (KpS.refl _ _ _) ?_
                simp only [Act.put, List.setIfInBounds_toArray, List.set_cons_zero, List.set_cons_succ]
                refine held_take (i := 1) (v := .slice (some ⟨g, off, none⟩) l.length lcap) rfl (by kernel_rfl) (by kernel_rfl) (by kernel_rfl) (fun _ _ _ h => h) rfl (fun W1 hW1 => rfl) (KpS.refl _ _ _) ?_
                simp only [Act.put, List.setIfInBounds_toArray, List.set_cons_zero, List.set_cons_succ]
                refine held_take (i := 2) (v := .int .i64 j) rfl (by kernel_rfl) (by kernel_rfl) (by kernel_rfl) (fun _ _ _ h => h) rfl (fun W1 hW1 => rfl) (KpS.refl _ _ _) ?_
                simp only [Act.put, List.setIfInBounds_toArray, List.set_cons_zero, List.set_cons_succ]
                refine held_take (i := 3) (v := .pointer (some ⟨g, off + j * 4, none⟩)) rfl (by kernel_rfl) (by kernel_rfl) (by kernel_rfl) (fun _ _ _ h => h) rfl (fun W1 hW1 => by go_simp) (KpS.refl _ _ _) ?_
                simp only [Act.put, List.setIfInBounds_toArray, List.set_cons_zero, List.set_cons_succ]
                refine held_take (i := 4) (v := .pointer (some ⟨g, off + j * 4 + 1, none⟩)) rfl (by kernel_rfl) (by kernel_rfl) (by kernel_rfl) (fun _ _ _ h => h) rfl (fun W1 hW1 => by go_simp) (KpS.refl _ _ _) ?_
                simp only [Act.put, List.setIfInBounds_toArray, List.set_cons_zero, List.set_cons_succ]
                refine held_take (i := 5) (v := .int .i64 N) rfl (by kernel_rfl) (by kernel_rfl) (by kernel_rfl) (fun _ _ _ h => h) rfl (fun W1 hW1 => exec_load _ _ _ _ rfl rfl (run_loadCell W1 _ _ _ (cN W1 hW1 1 _ rfl) (agg_no _ (by kernel_rfl)))) (KpS.refl _ _ _) ?_
                simp only [Act.put, List.setIfInBounds_toArray, List.set_cons_zero, List.set_cons_succ]
                refine held_take (i := 6) (v := .slice (some ⟨g, off, none⟩) l.length lcap) rfl (by kernel_rfl) (by kernel_rfl) (by kernel_rfl) (fun _ _ _ h => h) rfl (fun W1 hW1 => rfl) (KpS.refl _ _ _) ?_
                simp only [Act.put, List.setIfInBounds_toArray, List.set_cons_zero, List.set_cons_succ]
                refine held_take (i := 7) (v := .int .i64 j) rfl (by kernel_rfl) (by kernel_rfl) (by kernel_rfl) (fun _ _ _ h => h) rfl (fun W1 hW1 => rfl) (KpS.refl _ _ _) ?_
                simp only [Act.put, List.setIfInBounds_toArray, List.set_cons_zero, List.set_cons_succ]
                refine held_take (i := 8) (v := .pointer (some ⟨g, off + j * 4, none⟩)) rfl (by kernel_rfl) (by kernel_rfl) (by kernel_rfl) (fun _ _ _ h => h) rfl (fun W1 hW1 => by go_simp) (KpS.refl _ _ _) ?_
                simp only [Act.put, List.setIfInBounds_toArray, List.set_cons_zero, List.set_cons_succ]
                refine held_take (i := 9) (v := d4V ⟨A, N, C, L⟩) rfl (by kernel_rfl) (by kernel_rfl) (by kernel_rfl) (fun _ _ _ h => h) rfl (fun W1 hW1 => exec_load _ _ _ _ rfl rfl (loadD4_run W1 _ _ _ (cN W1 hW1))) (KpS.refl _ _ _) ?_
                simp only [Act.put, List.setIfInBounds_toArray, List.set_cons_zero, List.set_cons_succ]
                refine held_do (i := 10) (by kernel_rfl) rfl rfl (wp_enter (f := 27) (args := #[d4V ⟨A, N, C, L⟩]) (by go_simp) (bytes_any _ _ HOK.out) ?_)
                rintro e Wb ⟨bv, rfl, rb, _, kb⟩
                have kb1 : KpS F wr.heap.size wr.drew Wb := (KpS.refl _ _ _).keeps kb (Nat.le_refl _) (by simp)
                refine ⟨_, rfl, kb1, ?_⟩
                simp only [Act.put, List.setIfInBounds_toArray, List.set_cons_zero, List.set_cons_succ]
                have hDb := DD.out.keep (S := []) (show Keeps [] wr Wb from ⟨kb.os, kb.tape, kb.output, kb.size, kb.block⟩) (by simp)
                refine held_do (i := 11) (by kernel_rfl) rfl rfl (wp_enter (f := 11) (args := #[.pointer (some ⟨p, 0, none⟩), .int .i64 N, bv]) (by go_simp) (write_any Wb p s F _ hDb (by omega) N bv _ rb) ?_)
                rintro e Wc ⟨rfl, FX, DX', kc, frc⟩
                have kc1 : KpS F wr.heap.size wr.drew Wc := kb1.keeps kc kb1.size (fun i hi _ => hi)
                refine ⟨_, rfl, kc1, wpAnyH_done (by kernel_rfl) (NoPanic.normal ?_) _⟩
                have kW := hid (kd Wc kc1)
                have zW : Hid (∀ b ∈ FX, b ∈ F ∨ wr.heap.size ≤ b) := hid fun b hb => (frc b hb).imp id (fun h => Nat.le_trans kb1.size h)
                have DX := hid DX'
                clear kc kc1 frc DX' hDb kb1 kb cN kd rb
                simp only [Act.put, List.setIfInBounds_toArray, List.set_cons_zero, List.set_cons_succ]
                have LX : Hid (∀ b ∈ FX, W.heap.size ≤ b) := hid fun b hb => (zW.out b hb).elim (LL.out b) (fun h => by have := KK.out.size; omega)
                have KX : Hid (Keeps [] W Wc) := hid (KK.out.trans' kW.out (fun i hi hm => by have := LL.out i hm; omega))
                clear zW kW
                go_wp2_with fail
                go_roundw
                case rel => exact ⟨j + 1, _, FX, by omega, by simp, DX.out.mono (by omega), FF.out.write _ _, LX.out, KX.out⟩
                case measure => simp [intOf]; omega
              · go_wp2_with fail
                refine (sync_any wr p s F _ DD.out (by omega)).mono ?_
                rintro e w4 ⟨rfl, FX, DX', k4, fr4⟩
                have DX := hid DX'
                have LX : Hid (∀ b ∈ FX, W.heap.size ≤ b) := hid fun b hb => (fr4 b hb).elim (LL.out b) (fun h => by have := KK.out.size; omega)
                have KX : Hid (Keeps [] W w4) := hid (KK.out.trans' k4 (fun i hi hm => by have := LL.out i hm; omega))
                clear DX' k4 fr4
                go_wp2_with fail
                go_roundw
                case rel => exact ⟨j + 1, _, FX, by omega, by simp, DX.out.mono (by omega), FF.out.sync, LX.out, KX.out⟩
                case measure => simp [intOf]; omega
          · go_wp2_with fail
            go_roundw
            case rel => exact ⟨j + 1, s, F, by omega, by simp, DD.out.mono (by omega), FF.out, LL.out, KK.out⟩
            case measure => simp [intOf]; omega
        · have : j = l.length := by omega
          subst this
          have hlt' : ¬ (l.length : Int) < (l.length : Int) := by omega
          go_wp2_with fail
          refine (imageAt_any wr p s F _ DD.out).mono ?_
          rintro e w2 ⟨wv, rfl, ri, ni, ki⟩
          rw [FF.out.cnt] at ri
          have RI := hid ri
          have D2 := hid (DD.out.keep ki (by simp))
          have K2 := hid (KK.out.trans ki)
          clear ri ki ni DD KK
          go_wp2_with fail
          refine (loadAt_any w2 wv s.now 6 (by omega) (by omega) RI.out).mono ?_
          rintro e w3 ⟨px, Fx, rfl, dx, lx, k3⟩
          have DX3 := hid dx
          have LX3 := hid lx
          have D3 := hid (D2.out.keep k3 (by simp))
          have KB := hid k3
          have z23 := k3.size
          clear dx lx k3
          go_wp2_with fail
          refine (crash_any w3 p s F _ D3.out (by omega) (.slice none 0 0) [] (by simp) (RowAt.nil _)).mono ?_
          rintro e w4 ⟨py, Fy, rfl, dy, ly, k4⟩
          have DY4 := hid dy
          have LY4 := hid ly
          have DX4 := hid (DX3.out.keep k4 (by simp))
          have D4' := hid (D3.out.keep k4 (by simp))
          have KC := hid (KB.out.trans k4)
          clear dy ly k4
          go_wp2_with fail
          refine (imageAt_any w4 px _ Fx _ DX4.out).mono ?_
          rintro e w5 ⟨xv, rfl, rx, _, k5⟩
          rw [show (loadS s.now 6).cnt = 6 from rfl, loadS_image] at rx
          have KD := hid (KC.out.trans k5)
          have RX := hid rx
          have DY5 := hid (DY4.out.keep k5 (by simp))
          have DX5 := hid (DX4.out.keep k5 (by simp))
          have D5 := hid (D4'.out.keep k5 (by simp))
          clear rx k5
          go_wp2_with fail
          refine (same_true w5 xv wv _ RX.out (RI.out.keep KD.out (by intro _ _ _ _ _; simp)) (imageL_six _)).mono ?_
          rintro e w6 ⟨rfl, k6⟩
          have KE := hid (KD.out.trans k6)
          have DY6 := hid (DY5.out.keep k6 (by simp))
          have DX6 := hid (DX5.out.keep k6 (by simp))
          have D6 := hid (D5.out.keep k6 (by simp))
          clear k6
          go_wp2_with fail
          refine (imageAt_any w6 py _ Fy _ DY6.out).mono ?_
          rintro e w7 ⟨yv, rfl, ry, _, k7⟩
          have hcy : (s.crashed []).cnt = 6 := FF.out.cnt
          have hny : (s.crashed []).now = s.now := by simp only [DS.crashed, crashRow, keptBy_nil, FF.out.rep]
          rw [hcy, hny] at ry
          have KG := hid (KE.out.trans k7)
          have RY := hid ry
          have DY7 := hid (DY6.out.keep k7 (by simp))
          have DX7 := hid (DX6.out.keep k7 (by simp))
          have D7 := hid (D6.out.keep k7 (by simp))
          clear ry k7
          go_wp2_with fail
          refine (same_true w7 yv wv _ RY.out (RI.out.keep KG.out (by intro _ _ _ _ _; simp)) (imageL_six _)).mono ?_
          rintro e w8 ⟨rfl, k8⟩
          have KH := hid (KG.out.trans k8)
          have DY8 := hid (DY7.out.keep k8 (by simp))
          have DX8 := hid (DX7.out.keep k8 (by simp))
          have D8 := hid (D7.out.keep k8 (by simp))
          clear k8
          go_wp2_with fail
          refine (opsAt_any w8 px _ Fx _ DX8.out).mono ?_
          rintro e _ ⟨rfl, rfl⟩
          rw [show (loadS s.now 6).ops = 0 from rfl]
          go_wp2_with fail
          refine (opsAt_any w8 py _ Fy _ DY8.out).mono ?_
          rintro e _ ⟨rfl, rfl⟩
          rw [show (s.crashed []).ops = 0 from rfl]
          go_wp2_with fail
          have l400 : 4 * l.length ≤ 400 := by omega
          have L2 : Hid (∀ x ∈ F, x < w2.heap.size) := hid D2.out.lt
          have hdis : Hid (∀ x ∈ Fx, x ∉ Fy) := hid fun x h1 h2 => by
            have h3 := DX3.out.lt x h1
            have h4 := LY4.out x h2
            omega
          have LYX : Hid (∀ x ∈ Fy, w2.heap.size ≤ x) := hid fun x hx => by have := LY4.out x hx; omega
          have T0 := hid (LdTwo.start FF.out)
          have DA0 := hid (DX8.out.mono (k' := 400) (by omega))
          have DB0 := hid (DY8.out.mono (k' := 400) (by omega))
          have KZ := hid (K2.out.trans KH.out)
          have RZ := hid (RI.out.keep KH.out (by intro _ _ _ _ _; simp))
          clear D2 DX3 LY4 D3 KB DX4 DY4 D4' KC KD RX DY5 DX5 D5 KE DY6 DX6 D6 KG RY DY7 DX7 D7 DY8 DX8
          clear hcy hny z23
          have KW2 := hid K2.out.size
          have Z8 := hid KH.out.size
          clear K2 KH
          go_loopw [12] (fun v wr => ∃ (j : Nat) (a b : DS) (Fa Fb : List Nat), j ≤ k.length ∧ w2.heap.size ≤ wr.heap.size ∧ v = .int .i64 j ∧ DiskAt wr px a Fa (4 * j + 400) ∧ DiskAt wr py b Fb (4 * j + 400) ∧ LdTwo a b ∧ DiskAt wr p s F (4 * l.length) ∧ RowAt wr wv (imageL s.now 6) ∧
              (∀ x ∈ Fa, w2.heap.size ≤ x) ∧ (∀ x ∈ Fb, w2.heap.size ≤ x) ∧ (∀ x ∈ Fa, x ∉ Fb) ∧ Keeps [] W wr)
            (fun v _ => k.length - (intOf v).toNat)
          case atStart => exact ⟨0, _, _, Fx, Fy, by omega, Z8.out, rfl, DA0.out, DB0.out, T0.out, D8.out, RZ.out, LX3.out, LYX.out, hdis.out, KZ.out⟩
          case round =>
            obtain ⟨j, a, b, Fa, Fb, hj, hzw, rfl, hDA, hDB, hT, hD, hRW, hLA, hLB, hdd, hK⟩ := hrel
            have DA := hid hDA
            have DB := hid hDB
            have TT := hid hT
            have DD := hid hD
            have RW := hid hRW
            have LA := hid hLA
            have LB := hid hLB
            have HD := hid hdd
            have KK := hid hK
            clear hDA hDB hT hD hRW hLA hLB hdd hK DA0 DB0 T0 D8 RZ LX3 LYX hdis KZ
            by_cases hlt2 : j < k.length
            · have hlt2' : (j : Int) < (k.length : Int) := by omega
              obtain ⟨g, off, cap2, hv, hcap, hcs⟩ := HR.out.open (by omega)
              injection hv with hv _ hvc
              subst hv
              subst hvc
              obtain ⟨hrg, hok⟩ := hcs j hlt2
              clear hcs
              obtain ⟨⟨A, N, C, L⟩, hdj⟩ : ∃ d, d = k[j] := ⟨_, rfl⟩
              rw [← hdj] at hrg hok
              have HOK := hid hok
              have hgW : g < W.heap.size := World.block_lt_of_cell? _ _ (hrg 0 _ rfl)
              have HGF1 : Hid (g ∉ Fa) := hid fun hm => by have := LA.out g hm; have := KW2.out; omega
              have HGF2 : Hid (g ∉ Fb) := hid fun hm => by have := LB.out g hm; have := KW2.out; omega
              replace hrg : wr.rangeAt g (off + j * 4) (D4.cells ⟨A, N, C, L⟩) := fun q u hu => by
                rw [World.cell?_of_block (w := W) (KK.out.block _ hgW (by simp))]
                exact hrg q u hu
              have HRG1 := hid hrg
              have cA : wr.cell? ⟨g, off + j * 4, none⟩ = some (.int .i64 A) := hrg 0 _ rfl
              clear hrg hok hdj
              by_cases h4 : A ≤ 4
              · go_wp2_with fail
                refine wp_region_noPanic (wp_region_any (by kernel_rfl) (wpAny_of_held (S := KpS Fa wr.heap.size wr.drew) _ _ _ _ ?_))
                have kd : ∀ W1, KpS Fa wr.heap.size wr.drew W1 → Keeps Fa wr W1 := fun W1 h => ⟨h.os, h.tape, h.output, h.size, fun k hk hs => h.block k hk hs⟩
                have cN : ∀ W1, KpS Fa wr.heap.size wr.drew W1 → W1.rangeAt g (off + j * 4) (D4.cells ⟨A, N, C, L⟩) := fun W1 h q u hu => by
                  have hc := HRG1.out q u hu
                  rw [World.cell?_of_block (w := wr) ((kd W1 h).block _ (World.block_lt_of_cell? _ _ hc) HGF1.out)]
                  exact hc
                refine held_take (i := 0) (v := .pointer (some ⟨px, 0, none⟩)) rfl (by kernel_rfl) (by kernel_rfl) (by kernel_rfl) (fun _ _ _ h => h) rfl (fun W1 hW1 => rfl) (KpS.refl _ _ _) ?_
                simp only [Act.put, List.setIfInBounds_toArray, List.set_cons_zero, List.set_cons_succ]
                refine held_take (i := 1) (v := .slice (some ⟨g, off, none⟩) k.length rcap) rfl (by kernel_rfl) (by kernel_rfl) (by kernel_rfl) (fun _ _ _ h => h) rfl (fun W1 hW1 => rfl) (KpS.refl _ _ _) ?_
                simp only [Act.put, List.setIfInBounds_toArray, List.set_cons_zero, List.set_cons_succ]
                refine held_take (i := 2) (v := .int .i64 j) rfl (by kernel_rfl) (by kernel_rfl) (by kernel_rfl) (fun _ _ _ h => h) rfl (fun W1 hW1 => rfl) (KpS.refl _ _ _) ?_
                simp only [Act.put, List.setIfInBounds_toArray, List.set_cons_zero, List.set_cons_succ]
                refine held_take (i := 3) (v := .pointer (some ⟨g, off + j * 4, none⟩)) rfl (by kernel_rfl) (by kernel_rfl) (by kernel_rfl) (fun _ _ _ h => h) rfl (fun W1 hW1 => by go_simp) (KpS.refl _ _ _) ?_
                simp only [Act.put, List.setIfInBounds_toArray, List.set_cons_zero, List.set_cons_succ]
                refine held_take (i := 4) (v := .pointer (some ⟨g, off + j * 4 + 1, none⟩)) rfl (by kernel_rfl) (by kernel_rfl) (by kernel_rfl) (fun _ _ _ h => h) rfl (fun W1 hW1 => by go_simp) (KpS.refl _ _ _) ?_
                simp only [Act.put, List.setIfInBounds_toArray, List.set_cons_zero, List.set_cons_succ]
                refine held_take (i := 5) (v := .int .i64 N) rfl (by kernel_rfl) (by kernel_rfl) (by kernel_rfl) (fun _ _ _ h => h) rfl (fun W1 hW1 => exec_load _ _ _ _ rfl rfl (run_loadCell W1 _ _ _ (cN W1 hW1 1 _ rfl) (agg_no _ (by kernel_rfl)))) (KpS.refl _ _ _) ?_
                simp only [Act.put, List.setIfInBounds_toArray, List.set_cons_zero, List.set_cons_succ]
                refine held_take (i := 6) (v := .slice (some ⟨g, off, none⟩) k.length rcap) rfl (by kernel_rfl) (by kernel_rfl) (by kernel_rfl) (fun _ _ _ h => h) rfl (fun W1 hW1 => rfl) (KpS.refl _ _ _) ?_
                simp only [Act.put, List.setIfInBounds_toArray, List.set_cons_zero, List.set_cons_succ]
                refine held_take (i := 7) (v := .int .i64 j) rfl (by kernel_rfl) (by kernel_rfl) (by kernel_rfl) (fun _ _ _ h => h) rfl (fun W1 hW1 => rfl) (KpS.refl _ _ _) ?_
                simp only [Act.put, List.setIfInBounds_toArray, List.set_cons_zero, List.set_cons_succ]
                refine held_take (i := 8) (v := .pointer (some ⟨g, off + j * 4, none⟩)) rfl (by kernel_rfl) (by kernel_rfl) (by kernel_rfl) (fun _ _ _ h => h) rfl (fun W1 hW1 => by go_simp) (KpS.refl _ _ _) ?_
                simp only [Act.put, List.setIfInBounds_toArray, List.set_cons_zero, List.set_cons_succ]
                refine held_take (i := 9) (v := d4V ⟨A, N, C, L⟩) rfl (by kernel_rfl) (by kernel_rfl) (by kernel_rfl) (fun _ _ _ h => h) rfl (fun W1 hW1 => exec_load _ _ _ _ rfl rfl (loadD4_run W1 _ _ _ (cN W1 hW1))) (KpS.refl _ _ _) ?_
                simp only [Act.put, List.setIfInBounds_toArray, List.set_cons_zero, List.set_cons_succ]
                refine held_do (i := 10) (by kernel_rfl) rfl rfl (wp_enter (f := 27) (args := #[d4V ⟨A, N, C, L⟩]) (by go_simp) (bytes_any _ _ HOK.out) ?_)
                rintro e Wb ⟨bv, rfl, rb, _, kb⟩
                have kb1 : KpS Fa wr.heap.size wr.drew Wb := (KpS.refl _ _ _).keeps kb (Nat.le_refl _) (by simp)
                refine ⟨_, rfl, kb1, ?_⟩
                simp only [Act.put, List.setIfInBounds_toArray, List.set_cons_zero, List.set_cons_succ]
                have hDb := DA.out.keep (S := []) (show Keeps [] wr Wb from ⟨kb.os, kb.tape, kb.output, kb.size, kb.block⟩) (by simp)
                refine held_do (i := 11) (by kernel_rfl) rfl rfl (wp_enter (f := 11) (args := #[.pointer (some ⟨px, 0, none⟩), .int .i64 N, bv]) (by go_simp) (write_any Wb px a Fa _ hDb (by omega) N bv _ rb) ?_)
                rintro e Wc1 ⟨rfl, FX1, DX1', kc, frc⟩
                have kc1 : KpS Fa wr.heap.size wr.drew Wc1 := kb1.keeps kc kb1.size (fun i hi _ => hi)
                refine ⟨_, rfl, kc1, wpAnyH_done (by kernel_rfl) (NoPanic.normal ?_) _⟩
                have kW1 := hid (kd Wc1 kc1)
                have zW1 : Hid (∀ b ∈ FX1, b ∈ Fa ∨ wr.heap.size ≤ b) := hid fun b hb => (frc b hb).imp id (fun h => Nat.le_trans kb1.size h)
                have DX1 := hid DX1'
                clear kc kc1 frc DX1' hDb kb1 kb cN kd rb
                simp only [Act.put, List.setIfInBounds_toArray, List.set_cons_zero, List.set_cons_succ]
                have LX1 : Hid (∀ b ∈ FX1, w2.heap.size ≤ b) := hid fun x hx => (zW1.out x hx).elim (LA.out x) (fun h => by omega)
                have DB1 := hid (DB.out.keep kW1.out (fun x h1 h2 => HD.out x h2 h1))
                have HD1 : Hid (∀ x ∈ FX1, x ∉ Fb) := hid fun x h1 h2 => (zW1.out x h1).elim (fun h => HD.out x h h2) (fun h => by have := DB.out.lt x h2; omega)
                have DD1 := hid (DD.out.keep kW1.out (fun x h1 h2 => by have := L2.out x h1; have := LA.out x h2; omega))
                have RW1 := hid (RW.out.keep kW1.out (fun ad a b e hne hm => (rowat_off RI.out (S := Fa) LA.out) ad a b e hne hm))
                have KX1 : Hid (Keeps [] W Wc1) := hid (KK.out.trans' kW1.out (fun i hi hm => by have := LA.out i hm; have := KW2.out; omega))
                have HRG2 : Hid (Wc1.rangeAt g (off + j * 4) (D4.cells ⟨A, N, C, L⟩)) := hid fun q u hu => by
                  have hc := HRG1.out q u hu
                  rw [World.cell?_of_block (w := wr) (kW1.out.block _ (World.block_lt_of_cell? _ _ hc) HGF1.out)]
                  exact hc
                have SZ1 := hid kW1.out.size
                clear zW1 kW1 DB DD RW HD KK HRG1 cA DA
                go_wp2_with fail
                refine wp_region_noPanic (wp_region_any (by kernel_rfl) (wpAny_of_held (S := KpS Fb Wc1.heap.size Wc1.drew) _ _ _ _ ?_))
                have kd : ∀ W1, KpS Fb Wc1.heap.size Wc1.drew W1 → Keeps Fb Wc1 W1 := fun W1 h => ⟨h.os, h.tape, h.output, h.size, fun k hk hs => h.block k hk hs⟩
                have cN : ∀ W1, KpS Fb Wc1.heap.size Wc1.drew W1 → W1.rangeAt g (off + j * 4) (D4.cells ⟨A, N, C, L⟩) := fun W1 h q u hu => by
                  have hc := HRG2.out q u hu
                  rw [World.cell?_of_block (w := Wc1) ((kd W1 h).block _ (World.block_lt_of_cell? _ _ hc) HGF2.out)]
                  exact hc
                refine held_take (i := 0) (v := .pointer (some ⟨py, 0, none⟩)) rfl (by kernel_rfl) (by kernel_rfl) (by kernel_rfl) (fun _ _ _ h => h) rfl (fun W1 hW1 => rfl) (KpS.refl _ _ _) ?_
                simp only [Act.put, List.setIfInBounds_toArray, List.set_cons_zero, List.set_cons_succ]
                refine held_take (i := 1) (v := .slice (some ⟨g, off, none⟩) k.length rcap) rfl (by kernel_rfl) (by kernel_rfl) (by kernel_rfl) (fun _ _ _ h => h) rfl (fun W1 hW1 => rfl) (KpS.refl _ _ _) ?_
                simp only [Act.put, List.setIfInBounds_toArray, List.set_cons_zero, List.set_cons_succ]
                refine held_take (i := 2) (v := .int .i64 j) rfl (by kernel_rfl) (by kernel_rfl) (by kernel_rfl) (fun _ _ _ h => h) rfl (fun W1 hW1 => rfl) (KpS.refl _ _ _) ?_
                simp only [Act.put, List.setIfInBounds_toArray, List.set_cons_zero, List.set_cons_succ]
                refine held_take (i := 3) (v := .pointer (some ⟨g, off + j * 4, none⟩)) rfl (by kernel_rfl) (by kernel_rfl) (by kernel_rfl) (fun _ _ _ h => h) rfl (fun W1 hW1 => by go_simp) (KpS.refl _ _ _) ?_
                simp only [Act.put, List.setIfInBounds_toArray, List.set_cons_zero, List.set_cons_succ]
                refine held_take (i := 4) (v := .pointer (some ⟨g, off + j * 4 + 1, none⟩)) rfl (by kernel_rfl) (by kernel_rfl) (by kernel_rfl) (fun _ _ _ h => h) rfl (fun W1 hW1 => by go_simp) (KpS.refl _ _ _) ?_
                simp only [Act.put, List.setIfInBounds_toArray, List.set_cons_zero, List.set_cons_succ]
                refine held_take (i := 5) (v := .int .i64 N) rfl (by kernel_rfl) (by kernel_rfl) (by kernel_rfl) (fun _ _ _ h => h) rfl (fun W1 hW1 => exec_load _ _ _ _ rfl rfl (run_loadCell W1 _ _ _ (cN W1 hW1 1 _ rfl) (agg_no _ (by kernel_rfl)))) (KpS.refl _ _ _) ?_
                simp only [Act.put, List.setIfInBounds_toArray, List.set_cons_zero, List.set_cons_succ]
                refine held_take (i := 6) (v := .slice (some ⟨g, off, none⟩) k.length rcap) rfl (by kernel_rfl) (by kernel_rfl) (by kernel_rfl) (fun _ _ _ h => h) rfl (fun W1 hW1 => rfl) (KpS.refl _ _ _) ?_
                simp only [Act.put, List.setIfInBounds_toArray, List.set_cons_zero, List.set_cons_succ]
                refine held_take (i := 7) (v := .int .i64 j) rfl (by kernel_rfl) (by kernel_rfl) (by kernel_rfl) (fun _ _ _ h => h) rfl (fun W1 hW1 => rfl) (KpS.refl _ _ _) ?_
                simp only [Act.put, List.setIfInBounds_toArray, List.set_cons_zero, List.set_cons_succ]
                refine held_take (i := 8) (v := .pointer (some ⟨g, off + j * 4, none⟩)) rfl (by kernel_rfl) (by kernel_rfl) (by kernel_rfl) (fun _ _ _ h => h) rfl (fun W1 hW1 => by go_simp) (KpS.refl _ _ _) ?_
                simp only [Act.put, List.setIfInBounds_toArray, List.set_cons_zero, List.set_cons_succ]
                refine held_take (i := 9) (v := d4V ⟨A, N, C, L⟩) rfl (by kernel_rfl) (by kernel_rfl) (by kernel_rfl) (fun _ _ _ h => h) rfl (fun W1 hW1 => exec_load _ _ _ _ rfl rfl (loadD4_run W1 _ _ _ (cN W1 hW1))) (KpS.refl _ _ _) ?_
                simp only [Act.put, List.setIfInBounds_toArray, List.set_cons_zero, List.set_cons_succ]
                refine held_do (i := 10) (by kernel_rfl) rfl rfl (wp_enter (f := 27) (args := #[d4V ⟨A, N, C, L⟩]) (by go_simp) (bytes_any _ _ HOK.out) ?_)
                rintro e Wb ⟨bv, rfl, rb, _, kb⟩
                have kb1 : KpS Fb Wc1.heap.size Wc1.drew Wb := (KpS.refl _ _ _).keeps kb (Nat.le_refl _) (by simp)
                refine ⟨_, rfl, kb1, ?_⟩
                simp only [Act.put, List.setIfInBounds_toArray, List.set_cons_zero, List.set_cons_succ]
                have hDb := DB1.out.keep (S := []) (show Keeps [] Wc1 Wb from ⟨kb.os, kb.tape, kb.output, kb.size, kb.block⟩) (by simp)
                refine held_do (i := 11) (by kernel_rfl) rfl rfl (wp_enter (f := 11) (args := #[.pointer (some ⟨py, 0, none⟩), .int .i64 N, bv]) (by go_simp) (write_any Wb py b Fb _ hDb (by omega) N bv _ rb) ?_)
                rintro e Wc2 ⟨rfl, FX2, DX2', kc, frc⟩
                have kc1 : KpS Fb Wc1.heap.size Wc1.drew Wc2 := kb1.keeps kc kb1.size (fun i hi _ => hi)
                refine ⟨_, rfl, kc1, wpAnyH_done (by kernel_rfl) (NoPanic.normal ?_) _⟩
                have kW2 := hid (kd Wc2 kc1)
                have zW2 : Hid (∀ b ∈ FX2, b ∈ Fb ∨ Wc1.heap.size ≤ b) := hid fun b hb => (frc b hb).imp id (fun h => Nat.le_trans kb1.size h)
                have DX2 := hid DX2'
                clear kc kc1 frc DX2' hDb kb1 kb cN kd rb
                simp only [Act.put, List.setIfInBounds_toArray, List.set_cons_zero, List.set_cons_succ]
                have LX2 : Hid (∀ b ∈ FX2, w2.heap.size ≤ b) := hid fun x hx => (zW2.out x hx).elim (LB.out x) (fun h => by have := SZ1.out; omega)
                have DA2 := hid (DX1.out.keep kW2.out HD1.out)
                have HD2 : Hid (∀ x ∈ FX1, x ∉ FX2) := hid fun x h1 h2 => (zW2.out x h2).elim (fun h => HD1.out x h1 h) (fun h => by have := DX1.out.lt x h1; omega)
                have DD2 := hid (DD1.out.keep kW2.out (fun x h1 h2 => by have := L2.out x h1; have := LB.out x h2; omega))
                have RW2 := hid (RW1.out.keep kW2.out (fun ad a b e hne hm => (rowat_off RI.out (S := Fb) LB.out) ad a b e hne hm))
                have KX2 : Hid (Keeps [] W Wc2) := hid (KX1.out.trans' kW2.out (fun i hi hm => by have := LB.out i hm; have := KW2.out; omega))
                have SZ2 : Hid (w2.heap.size ≤ Wc2.heap.size) := hid (by have := SZ1.out; have := kW2.out.size; omega)
                clear zW2 kW2 DB1 DD1 RW1 HD1 KX1 HRG2 DX1 SZ1
                go_wp2_with fail
                go_roundw
                case rel => exact ⟨j + 1, _, _, FX1, FX2, by omega, SZ2.out, by simp, DA2.out.mono (by omega), DX2.out.mono (by omega), TT.out.write _ _, DD2.out, RW2.out, LX1.out, LX2.out, HD2.out, KX2.out⟩
                case measure => simp [intOf]; omega
              · go_wp2_with fail
                go_roundw
                case rel => exact ⟨j + 1, a, b, Fa, Fb, by omega, hzw, by simp, DA.out.mono (by omega), DB.out.mono (by omega), TT.out, DD.out, RW.out, LA.out, LB.out, HD.out, KK.out⟩
                case measure => simp [intOf]; omega
            · have : j = k.length := by omega
              subst this
              have hlt2' : ¬ (k.length : Int) < (k.length : Int) := by omega
              go_wp2_with fail
              refine (imageAt_any wr p s F _ DD.out).mono ?_
              rintro e wa ⟨v1, rfl, r1, _, ka⟩
              rw [FF.out.cnt] at r1
              have R1 := hid r1
              have DAa := hid (DA.out.keep ka (by simp))
              have DBa := hid (DB.out.keep ka (by simp))
              have RWa := hid (RW.out.keep ka (by intro _ _ _ _ _; simp))
              have KKa := hid (KK.out.trans ka)
              clear r1 ka DA DB DD RW KK
              go_wp2_with fail
              refine (same_true wa v1 wv _ R1.out RWa.out (imageL_six _)).mono ?_
              rintro e wb ⟨rfl, kb⟩
              have DAb := hid (DAa.out.keep kb (by simp))
              have DBb := hid (DBa.out.keep kb (by simp))
              have KKb := hid (KKa.out.trans kb)
              clear kb DAa DBa KKa R1 RWa
              go_wp2_with fail
              refine (imageAt_any wb px a Fa _ DAb.out).mono ?_
              rintro e wc ⟨v2, rfl, r2, _, kc⟩
              rw [TT.out.ca, imageL_congr TT.out.eq] at r2
              have R2 := hid r2
              have DBc := hid (DBb.out.keep kc (by simp))
              have KKc := hid (KKb.out.trans kc)
              clear r2 kc DAb DBb KKb
              go_wp2_with fail
              refine (imageAt_any wc py b Fb _ DBc.out).mono ?_
              rintro e wd ⟨v3, rfl, r3, _, kd⟩
              rw [TT.out.cb] at r3
              have R3 := hid r3
              have R2' := hid (R2.out.keep kd (by intro _ _ _ _ _; simp))
              have KKd := hid (KKc.out.trans kd)
              clear r3 kd DBc KKc R2
              go_wp2_with fail
              refine (same_true wd v2 v3 _ R2'.out R3.out (imageL_six _)).mono ?_
              rintro e we ⟨rfl, ke⟩
              have KKe := hid (KKd.out.trans ke)
              clear ke
              go_wp2_with fail
              go_ret
              exact ⟨rfl, KKe.out⟩
    · have e2 : decide ((k.length : Int) ≤ 60) = false := by simp; omega
      rw [e2]
      go_wp2_with fail
      go_ret
      exact ⟨rfl, K0.out⟩
  · have e1 : decide ((l.length : Int) ≤ 100) = false := by simp; omega
    rw [e1]
    go_wp2_with fail
    go_ret
    exact ⟨rfl, K0.out⟩

end Go.Proofs.Ytodjkgifbocjdaa
