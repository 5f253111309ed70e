/- The walk of the law SlotPlays. -/
import Derived.Test.YtiljhjegfklgmaaGreatRsL
import Derived.Test.YtiljhjegfklgmaaGreatRfJa
namespace Go.Proofs.YtiljhjegfklgmaaGreat
open Go.RowKit Go.Shelf
set_option maxRecDepth 100000
set_option linter.unusedSimpArgs false

theorem fuseS_cnt (s : DS) (k : Int) : (fuseS s k).cnt = s.cnt := by unfold fuseS; split <;> rfl

set_option maxHeartbeats 16000000 in
theorem splays_any (W : World) (n first : Int) (v : Value) (l : List D5) (hl : D5sAt W v l) :
    Calls Tryz.prog 3 #[.int .i64 n, .int .i64 first, v] W fun e w' => e = .returned (.bool true) ∧ Keeps [] W w' := by
  have HL := hid hl
  obtain ⟨la, lcap, rfl, -⟩ := id hl
  clear hl
  go_enter Tryz.func3, Tryz.ntmps3
  go_wp2_with fail
  refine (awake5_any W).mono ?_
  rintro e w0 ⟨rfl, k0⟩
  have K0 := hid k0
  clear k0
  go_wp2_with fail
  refine (room5_any w0 _ l (HL.out.keep K0.out) 60 (by omega)).mono ?_
  rintro e _ ⟨b, rfl, rfl, hb⟩
  have RM := hid hb
  clear hb
  cases b with
  | false =>
    go_wp2_with fail
    go_ret
    exact ⟨rfl, K0.out⟩
  | true =>
    have RO := hid (RM.out rfl)
    clear RM
    by_cases hn1 : n < 2
    · go_wp2_with fail
      go_ret
      exact ⟨rfl, K0.out⟩
    · by_cases hn2 : n > 200
      · go_wp2_with fail
        go_ret
        exact ⟨rfl, K0.out⟩
      · obtain ⟨c, rfl⟩ := Int.eq_ofNat_of_zero_le (show 0 ≤ n by omega)
        have hl60 := RO.out.1
        go_wp2_with fail
        refine (newAt_any c (by omega) (by omega) w0).mono ?_
        rintro e w1 ⟨p, F, rfl, D1, l1, k1⟩
        have D1' := hid D1
        have L1 := hid l1
        have K1 := hid k1
        clear D1 l1 k1
        go_wp2_with fail
        refine (rnew_any c (by omega) (by omega) w1).mono ?_
        rintro e w2 ⟨rp, vf, uf, rfl, R2, l2, k2⟩
        have R2' : Hid (RefS w2 rp (blankS c) (rbl rp vf uf)) := hid ⟨_, SameD.refl (by simp [blankS]), vf, uf, R2, rfl⟩
        have L2 : Hid (∀ b ∈ rbl rp vf uf, w1.heap.size ≤ b) := hid (fun b hb => l2 b ((rbl_iff _ _ _ _).1 hb))
        have D2 := hid (D1'.out.keep k2 (by simp))
        have K2 := hid k2
        have FL : Hid (∀ b ∈ F, b < w1.heap.size) := hid D1'.out.lt
        clear R2 l2 k2 D1'
        by_cases hfi : first < 0 ∨ ((blankS c).cnt : Int) < first
        · have LO := hid (fun W9 (k : Keeps [] w2 W9) => lOpen_no W9 p (blankS c) F 0 (D2.out.keep k (by simp)) first hfi)
          have RO2 := hid (fun W9 (k : Keeps [] w2 W9) => ropen_no W9 rp (blankS c) _ (R2'.out.keep k (by simp)) first hfi)
          have KZ := hid ((K0.out.trans K1.out).trans K2.out)
          clear hfi
          go_wp2_with fail
          refine (LO.out w2 (Keeps.refl _ _)).mono ?_
          rintro e _ ⟨rfl, rfl⟩
          go_wp2_with fail
          refine (RO2.out w2 (Keeps.refl _ _)).mono ?_
          rintro e _ ⟨rfl, rfl⟩
          go_wp2_with fail
          go_ret
          exact ⟨rfl, KZ.out⟩
        · obtain ⟨f, rfl⟩ := Int.eq_ofNat_of_zero_le (show 0 ≤ first by omega)
          have hcb : (blankS c).cnt = c := rfl
          have hfc : f ≤ (blankS c).cnt := by omega
          have LO := hid (lOpen_both w2 p (blankS c) F 0 D2.out f _ hfc rfl rfl)
          have RO2 := hid (fun W9 (k : Keeps [] w2 W9) => ropen_any W9 rp (blankS c) _ (R2'.out.keep k (by simp)) f _ hfc (by rw [hcb]; omega) rfl rfl)
          have hd0 : (blankS c).dead = false := rfl
          obtain ⟨s0, hs0⟩ : ∃ s0, s0 = blankS c := ⟨_, rfl⟩
          obtain ⟨m, hm⟩ : ∃ m, m = (s0.cnt - f) / 8 := ⟨_, rfl⟩
          have FIT0 : Hid (s0.Fit 0) := hid (by
            rw [hs0]
            obtain ⟨ok, m, lv, n, h1, h2, h3⟩ := D2.out
            exact ⟨ok, by omega⟩)
          have FITM : Hid (f + m * 8 ≤ s0.cnt) := hid (by rw [hs0] at hm ⊢; omega)
          rw [← hs0] at LO RO2 D2 R2'
          rw [← hm] at LO RO2
          clear hfi hcb hfc hs0 hm hd0
          go_wp2_with fail
          refine LO.out.mono ?_
          rintro e w3 ⟨k3, hL⟩
          have HLC := hid hL
          have K3 := hid k3
          clear hL k3 LO
          have R3 := hid (RO2.out w3 K3.out)
          clear RO2
          by_cases hgood : goodS s0 f m
          · obtain ⟨q, g, rfl, SL, hq1, hg1⟩ : ∃ q g, e = .returned (.tuple #[.pointer (some ⟨q, 0, none⟩), .int .i64 0]) ∧ SlAt w3 q p g f (headsS s0 f m) s0 F 0 ∧ w2.heap.size ≤ q ∧ w2.heap.size ≤ g := by
              rcases HLC.out with ⟨_, h⟩ | ⟨h, _⟩
              · exact h
              · exact absurd hgood h
            have SL3 := hid SL
            have HQ := hid hq1
            have HG := hid hg1
            have HGOOD := hid hgood
            clear HLC SL hq1 hg1 hgood
            go_wp2_with fail
            refine R3.out.mono ?_
            rintro e w4 ⟨k4, hR⟩
            obtain ⟨rq, M, rfl, RS, hM⟩ : ∃ rq M, e = .returned (.tuple #[.pointer (some ⟨rq, 0, none⟩), .int .i64 0]) ∧ RsAt w4 rq rp f (headsS s0 f m) M ∧ ∀ b ∈ M, w3.heap.size ≤ b := by
              rcases hR with ⟨_, h⟩ | ⟨h, _⟩
              · exact h
              · exact absurd HGOOD.out h
            have SP0 : Hid (SpI W w4 q p g rq rp f (headsS s0 f m) s0 (headsS s0 f m) s0 F M (rbl rp vf uf) 0) := hid (by
              have z01 := K0.out.size
              have z12 := K1.out.size
              have z2 := K2.out.size
              have z3 := K3.out.size
              have ltc : ∀ b ∈ q :: g :: F, b < w3.heap.size := fun b hb => by
                rcases List.mem_cons.1 hb with rfl | hb
                · exact SL3.out.sl.ltq
                · rcases List.mem_cons.1 hb with rfl | hb
                  · exact SL3.out.sl.ltg
                  · exact SL3.out.dk.lt b hb
              refine ⟨SL3.out.keep k4 (by simp) (by simp) (by simp), ⟨RS, (R2'.out.keep K3.out (by simp)).keep k4 (by simp), fun b hb hg => ?_, FIT0.out, ?_, ?_⟩, fun b hb hg => ?_, fun b hb => ?_, (((K0.out.trans K1.out).trans K2.out).trans K3.out).trans k4⟩
              · have := hM b hb; have := R2'.out.lt b hg; omega
              · have : (headsS s0 f m).length = m := by simp [headsS]
                rw [this]; exact FITM.out
              · rw [← opS_all]; exact opS_ok _ _ _ _
              · rcases List.mem_append.1 hg with hg | hg
                · have := hM b hg; have := ltc b hb; omega
                · have h5 := R2'.out.lt b hg
                  have h6 := L2.out b hg
                  rcases List.mem_cons.1 hb with rfl | hb
                  · have := HQ.out; omega
                  · rcases List.mem_cons.1 hb with rfl | hb
                    · have := HG.out; omega
                    · have := FL.out b hb; omega
              · rcases List.mem_append.1 hb with hb | hb
                · rcases List.mem_cons.1 hb with rfl | hb
                  · have := HQ.out; omega
                  · rcases List.mem_cons.1 hb with rfl | hb
                    · have := HG.out; omega
                    · have := L1.out b hb; omega
                · rcases List.mem_append.1 hb with hb | hb
                  · have := hM b hb; omega
                  · have := L2.out b hb; omega)
            clear k4 hR RS hM SL3 R3 HGOOD FIT0 FITM FL L2 L1 D2 R2' HQ HG
            go_wp2_with fail
            go_loopw [15] (fun v wr => ∃ (j : Nat) (hs : List Hd) (s : DS) (F M G : List Nat), j ≤ l.length ∧ v = .int .i64 j ∧ Hid (SpI W wr q p g rq rp f hs s hs s F M G (60 * j))) (fun v _ => l.length - (intOf v).toNat)
            case atStart => exact ⟨0, _, _, _, _, _, by omega, rfl, SP0⟩
            case round =>
              obtain ⟨j, hs, s, F, M, G, hj, rfl, PP⟩ := hrel
              clear SP0
              by_cases hlt : j < l.length
              · have hlt' : (j : Int) < (l.length : Int) := by omega
                obtain ⟨a9, cap9, hv, _, _, _, h3⟩ := HL.out
                injection hv with e1 _ e3
                subst e1; subst e3
                obtain ⟨g0, off, rfl, hds⟩ := h3 (by rintro rfl; simp at hlt)
                have hd := hds j hlt
                have hrm := RO.out.2 _ (List.getElem_mem hlt)
                clear h3 hds
                obtain ⟨d, ed⟩ : ∃ d, d = l[j] := ⟨_, rfl⟩
                rw [← ed] at hd hrm
                obtain ⟨A, I, N, kv, bv, key, b⟩ := d
                have hkl : key.length ≤ 100 := hrm.1
                have hbl : b.length ≤ 600 := hrm.2
                obtain ⟨ka, kc, ek, -⟩ := id hd.rk
                obtain ⟨ba, bc, eb, -⟩ := id hd.rb
                simp only at ek eb
                subst ek; subst eb
                have KR := hid hd.rk
                have BR := hid hd.rb
                have DB2 := hid hd.b2
                have DA := hid (hd.keep PP.out.kp)
                have KOF : Hid (Off F (.slice ka key.length kc) key) := hid (fun ad n c e hne hm => by have h1 := row_blk KR.out e hne; have h2 := PP.out.new ad.block (by simp [hm]); omega)
                have BOF : Hid (Off F (.slice ba b.length bc) b) := hid (fun ad n c e hne hm => by have h1 := row_blk BR.out e hne; have h2 := PP.out.new ad.block (by simp [hm]); omega)
                have KOM : Hid (Off (M ++ G) (.slice ka key.length kc) key) := hid (fun ad n c e hne hm => by have h1 := row_blk KR.out e hne; have h2 := PP.out.new ad.block (List.mem_append.2 (.inr hm)); omega)
                have BOM : Hid (Off (M ++ G) (.slice ba b.length bc) b) := hid (fun ad n c e hne hm => by have h1 := row_blk BR.out e hne; have h2 := PP.out.new ad.block (List.mem_append.2 (.inr hm)); omega)
                have qB := heap_alloc_new wr (.cells (D5.cells ⟨A, I, N, .slice ka key.length kc, .slice ba b.length bc, key, b⟩).toArray 40)
                have P1 := hid (PP.out.keep ((Keeps.refl [] wr).alloc (.cells (D5.cells ⟨A, I, N, .slice ka key.length kc, .slice ba b.length bc, key, b⟩).toArray 40)))
                have BN : Hid (wr.heap.size ∉ g :: F ∧ wr.heap.size ∉ M ++ G) := hid ⟨fun h => by have := PP.out.lt wr.heap.size (List.mem_append.2 (.inl (List.mem_cons_of_mem _ h))); omega, fun h => by have := PP.out.lt wr.heap.size (List.mem_append.2 (.inr h)); omega⟩
                have q0 : (wr.alloc (.cells (D5.cells ⟨A, I, N, .slice ka key.length kc, .slice ba b.length bc, key, b⟩).toArray 40)).cell? ⟨wr.heap.size, 0, none⟩ = some (.int .i64 A) := cell_of_row _ _ 0 _ _ (0, 0) qB
                have q1 : (wr.alloc (.cells (D5.cells ⟨A, I, N, .slice ka key.length kc, .slice ba b.length bc, key, b⟩).toArray 40)).cell? ⟨wr.heap.size, 1, none⟩ = some (.int .i64 I) := cell_of_row _ _ 1 _ _ (0, 0) qB
                have q2 : (wr.alloc (.cells (D5.cells ⟨A, I, N, .slice ka key.length kc, .slice ba b.length bc, key, b⟩).toArray 40)).cell? ⟨wr.heap.size, 2, none⟩ = some (.int .i64 N) := cell_of_row _ _ 2 _ _ (0, 0) qB
                have q3 : (wr.alloc (.cells (D5.cells ⟨A, I, N, .slice ka key.length kc, .slice ba b.length bc, key, b⟩).toArray 40)).cell? ⟨wr.heap.size, 3, none⟩ = some (.slice ka key.length kc) := cell_of_row _ _ 3 _ _ (0, 0) qB
                have q4 : (wr.alloc (.cells (D5.cells ⟨A, I, N, .slice ka key.length kc, .slice ba b.length bc, key, b⟩).toArray 40)).cell? ⟨wr.heap.size, 4, none⟩ = some (.slice ba b.length bc) := cell_of_row _ _ 4 _ _ (0, 0) qB
                have BL : wr.heap.size < (wr.alloc (.cells (D5.cells ⟨A, I, N, .slice ka key.length kc, .slice ba b.length bc, key, b⟩).toArray 40)).heap.size := by simp
                have QB := hid qB
                clear hd hrm qB PP ed
                by_cases h4 : A ≤ 4
                · go_wp2_with (first | (refine wpList_loadD5 rfl _ rfl _ _ rfl ⟨A, I, N, .slice ka key.length kc, .slice ba b.length bc, key, b⟩ DA.out ?_) | (refine wpList_allocD5 rfl rfl ?_) | (refine wpList_storeD5New rfl _ _ rfl wr rfl _ rfl rfl ⟨A, I, N, .slice ka key.length kc, .slice ba b.length bc, key, b⟩ rfl rfl rfl ?_) | fail)
                  generalize wr.alloc (.cells (D5.cells ⟨A, I, N, .slice ka key.length kc, .slice ba b.length bc, key, b⟩).toArray 40) = wx at P1 q1 q2 q3 q4 QB BL ⊢
                  generalize wr.heap.size = bx at q1 q2 q3 q4 QB BN BL ⊢
                  clear q0 DA
                  refine (lPut_any wx q p g f hs s F _ P1.out.c (by omega) I _ key (KR.out.keep P1.out.kp (by intro _ _ _ _ _; simp)) KOF.out _ b (BR.out.keep P1.out.kp (by intro _ _ _ _ _; simp)) BOF.out).mono ?_
                  rintro e w2 ⟨rfl, F2, d2, k2, fr2⟩
                  have P2 := hid (P1.out.code d2 k2 fr2 (by omega))
                  replace q1 : w2.cell? ⟨bx, 1, none⟩ = some (.int .i64 I) := keeps_cell4 k2 q1 BN.out.1
                  replace q3 : w2.cell? ⟨bx, 3, none⟩ = some (.slice ka key.length kc) := keeps_cell4 k2 q3 BN.out.1
                  replace q4 : w2.cell? ⟨bx, 4, none⟩ = some (.slice ba b.length bc) := keeps_cell4 k2 q4 BN.out.1
                  clear d2 k2 fr2 P1 q2
                  go_wp2_with fail
                  refine (rput_any w2 rq rp f hs s M G _ P2.out.r (by omega) I _ _ key b (KR.out.keep P2.out.kp (by intro _ _ _ _ _; simp)) (BR.out.keep P2.out.kp (by intro _ _ _ _ _; simp)) KOM.out BOM.out (by omega) (by omega)).mono ?_
                  intro e w3 hp
                  obtain ⟨M3, G3, P3⟩ := P2.out.ref hp (by omega)
                  obtain rfl := hp.is
                  clear hp P2 q1 q3 q4
                  generalize putE hs f s I key b = er
                  generalize putH hs f s I key b = hs9 at P3
                  generalize putS hs f s I key b = s9 at P3
                  have P9 := hid P3
                  clear P3
                  go_wp2_with fail
                  have RK9 := P9.out.r.dk.cells.1
                  refine wp_region_noPanic (wp_region_any (by kernel_rfl) (wpAny_of_held (S := KpS [] w3.heap.size w3.drew) _ _ _ _ ?_))
                  have kd : ∀ W1, KpS [] w3.heap.size w3.drew W1 → Keeps [] w3 W1 := fun W1 h => ⟨h.os, h.tape, h.output, h.size, fun k hk hs => h.block k hk hs⟩
                  refine held_take (i := 0) (v := .bool true) rfl (by kernel_rfl) (by kernel_rfl) (by kernel_rfl) (fun _ _ _ h => h) rfl (fun W1 hW1 => rfl) (KpS.refl _ _ _) ?_
                  simp only [Act.put, List.setIfInBounds_toArray, List.set_cons_zero, List.set_cons_succ]
                  refine held_take (i := 1) (v := .bool false) rfl (by kernel_rfl) (by kernel_rfl) (by kernel_rfl) (fun _ _ _ h => h) rfl (fun W1 hW1 => by go_simp) (KpS.refl _ _ _) ?_
                  simp only [Act.put, List.setIfInBounds_toArray, List.set_cons_zero, List.set_cons_succ]
                  refine held_take (i := 2) (v := .bool false) rfl (by kernel_rfl) (by kernel_rfl) (by kernel_rfl) (fun _ _ _ h => h) rfl (fun W1 hW1 => rfl) (KpS.refl _ _ _) ?_
                  simp only [Act.put, List.setIfInBounds_toArray, List.set_cons_zero, List.set_cons_succ]
                  refine held_takeW (i := 3) (v := .pointer (some ⟨q, 0, none⟩)) rfl (by kernel_rfl) (by kernel_rfl) (by kernel_rfl) (fun _ _ _ h => h) rfl (fun W1 hW1 => rfl) (KpS.refl _ _ _) ?_
                  simp only [Act.put, List.setIfInBounds_toArray, List.set_cons_zero, List.set_cons_succ]
                  refine held_takeW (i := 4) (v := .pointer (some ⟨rq, 0, none⟩)) rfl (by kernel_rfl) (by kernel_rfl) (by kernel_rfl) (fun _ _ _ h => h) rfl (fun W1 hW1 => rfl) (KpS.refl _ _ _) ?_
                  simp only [Act.put, List.setIfInBounds_toArray, List.set_cons_zero, List.set_cons_succ]
                  refine held_doW (i := 5) (by kernel_rfl) rfl rfl (wp_enter (f := 18) (args := #[.pointer (some ⟨q, 0, none⟩), .pointer (some ⟨rq, 0, none⟩)]) (by go_simp) (looks_any w3.drew q p g rq rp f hs9 s9 _ _ _ _ (P9.out.keep (kd _ (KpS.refl _ _ _))).lk) ?_)
                  rintro e wl ⟨rfl, kl⟩
                  have sl : KpS [] w3.heap.size w3.drew wl := (KpS.refl _ _ w3.drew).keeps kl (by simp) (by simp)
                  refine ⟨_, rfl, sl, ?_⟩
                  simp only [Act.put, List.setIfInBounds_toArray, List.set_cons_zero, List.set_cons_succ]
                  refine held_takeW (i := 6) (v := .bool false) rfl (by kernel_rfl) (by kernel_rfl) (by kernel_rfl) (fun _ _ _ h => h) rfl (fun W1 hW1 => by go_simp) (sl) ?_
                  simp only [Act.put, List.setIfInBounds_toArray, List.set_cons_zero, List.set_cons_succ]
                  refine held_take (i := 7) (v := .bool false) rfl (by kernel_rfl) (by kernel_rfl) (by kernel_rfl) (fun _ _ _ h => h) rfl (fun W1 hW1 => by go_simp) (sl) ?_
                  simp only [Act.put, List.setIfInBounds_toArray, List.set_cons_zero, List.set_cons_succ]
                  refine held_take (i := 8) (v := .bool false) rfl (by kernel_rfl) (by kernel_rfl) (by kernel_rfl) (fun _ _ _ h => h) rfl (fun W1 hW1 => rfl) (sl) ?_
                  simp only [Act.put, List.setIfInBounds_toArray, List.set_cons_zero, List.set_cons_succ]
                  refine held_takeW (i := 9) (v := .pointer (some ⟨p, 0, none⟩)) rfl (by kernel_rfl) (by kernel_rfl) (by kernel_rfl) (fun _ _ _ h => h) rfl (fun W1 hW1 => rfl) (sl) ?_
                  simp only [Act.put, List.setIfInBounds_toArray, List.set_cons_zero, List.set_cons_succ]
                  refine held_takeW (i := 11) (v := .pointer (some ⟨rp, 0, none⟩)) rfl (by kernel_rfl) (by kernel_rfl) (by kernel_rfl) (fun _ _ _ h => h) rfl (fun W1 hW1 => rfl) (sl) ?_
                  simp only [Act.put, List.setIfInBounds_toArray, List.set_cons_zero, List.set_cons_succ]
                  refine held_takeW (i := 12) (v := .pointer (some ⟨rp, 0, none⟩)) rfl (by kernel_rfl) (by kernel_rfl) (by kernel_rfl) (fun _ _ _ h => h) rfl (fun W1 hW1 => by go_simp) (sl) ?_
                  simp only [Act.put, List.setIfInBounds_toArray, List.set_cons_zero, List.set_cons_succ]
                  refine held_takeW (i := 13) (v := .pointer (some ⟨rp, 4, none⟩)) rfl (by kernel_rfl) (by kernel_rfl) (by kernel_rfl) (fun _ _ _ h => h) rfl (fun W1 hW1 => by go_simp) (sl) ?_
                  simp only [Act.put, List.setIfInBounds_toArray, List.set_cons_zero, List.set_cons_succ]
                  refine held_takeW (i := 14) (v := .int .i64 s9.ops) rfl (by kernel_rfl) (by kernel_rfl) (by kernel_rfl) (fun _ _ _ h => h) rfl (fun W1 hW1 => exec_load _ _ _ _ rfl rfl (run_loadCell W1 _ _ _ (keeps_cell4 (kd W1 hW1) RK9 (by simp)) (agg_no _ (by kernel_rfl)))) (sl) ?_
                  simp only [Act.put, List.setIfInBounds_toArray, List.set_cons_zero, List.set_cons_succ]
                  refine held_doW (i := 10) (by kernel_rfl) rfl rfl (wp_enter (f := 19) (args := #[.pointer (some ⟨p, 0, none⟩)]) (by go_simp) (opsAt_any wl p s9 _ _ (P9.out.keep (kd wl sl)).c.dk) ?_)
                  rintro e _ ⟨rfl, rfl⟩
                  refine ⟨_, rfl, sl, ?_⟩
                  simp only [Act.put, List.setIfInBounds_toArray, List.set_cons_zero, List.set_cons_succ]
                  refine held_takeW (i := 15) (v := .bool false) rfl (by kernel_rfl) (by kernel_rfl) (by kernel_rfl) (fun _ _ _ h => h) rfl (fun W1 hW1 => by go_simp) (sl) ?_
                  simp only [Act.put, List.setIfInBounds_toArray, List.set_cons_zero, List.set_cons_succ]
                  refine held_take (i := 16) (v := .bool false) rfl (by kernel_rfl) (by kernel_rfl) (by kernel_rfl) (fun _ _ _ h => h) rfl (fun W1 hW1 => by go_simp) (sl) ?_
                  simp only [Act.put, List.setIfInBounds_toArray, List.set_cons_zero, List.set_cons_succ]
                  refine wpAnyH_done (by kernel_rfl) (NoPanic.normal ?_) _
                  have PZ := hid (P9.out.keep (kd wl sl))
                  clear RK9 sl kl P9 kd
                  go_wp2_with fail
                  go_roundw
                  case rel => exact ⟨j + 1, _, _, _, _, _, by omega, by go_num, PZ.out.mono (by omega)⟩
                  case measure => simp [intOf]; omega
                · by_cases h5 : A = 5
                  · subst h5
                    have h5' : ((5 : Int) == 5) = true := rfl
                    go_wp2_with (first | (refine wpList_loadD5 rfl _ rfl _ _ rfl ⟨5, I, N, .slice ka key.length kc, .slice ba b.length bc, key, b⟩ DA.out ?_) | (refine wpList_allocD5 rfl rfl ?_) | (refine wpList_storeD5New rfl _ _ rfl wr rfl _ rfl rfl ⟨5, I, N, .slice ka key.length kc, .slice ba b.length bc, key, b⟩ rfl rfl rfl ?_) | fail)
                    generalize wr.alloc (.cells (D5.cells ⟨5, I, N, .slice ka key.length kc, .slice ba b.length bc, key, b⟩).toArray 40) = wx at P1 q1 q2 q3 q4 QB BL ⊢
                    generalize wr.heap.size = bx at q1 q2 q3 q4 QB BN BL ⊢
                    clear q0 DA
                    refine (lGet_any5 wx q p g f hs s F _ P1.out.c I).mono ?_
                    rintro e w2 ⟨v2, rfl, r2, k2⟩
                    have P2 := hid (P1.out.keep k2)
                    have X2 := hid r2
                    replace q1 : w2.cell? ⟨bx, 1, none⟩ = some (.int .i64 I) := keeps_cell4 k2 q1 (by simp)
                    clear k2 r2 P1 q2 q3 q4
                    go_wp2_with fail
                    refine (rget_any w2 rq rp f hs M P2.out.r.sl s G P2.out.r.dk P2.out.r.ok P2.out.r.room P2.out.r.fit.ok.hi I).mono ?_
                    rintro e w3 ⟨v3, rfl, r3, k3⟩
                    have P3 := hid (P2.out.keep k3)
                    have Y3 := hid r3
                    have X3 := hid (X2.out.keep k3 (by intro _ _ _ _ _; simp))
                    clear k3 r3 P2 X2 q1
                    generalize getE hs s I = er
                    go_wp2_with fail
                    refine (same_true w3 v2 v3 _ X3.out Y3.out (by have := getX_len hs s f I; omega)).mono ?_
                    rintro e w4 ⟨rfl, k4⟩
                    have P4 := hid (P3.out.keep k4)
                    clear k4 P3 X3 Y3
                    obtain ⟨hs9, e9⟩ : ∃ hs9, hs9 = hs := ⟨_, rfl⟩
                    obtain ⟨s9, e8⟩ : ∃ s9, s9 = s := ⟨_, rfl⟩
                    rw [← e9, ← e8] at P4
                    have P9 := hid P4.out
                    clear P4 e8 e9
                    go_wp2_with fail
                    have RK9 := P9.out.r.dk.cells.1
                    refine wp_region_noPanic (wp_region_any (by kernel_rfl) (wpAny_of_held (S := KpS [] w4.heap.size w4.drew) _ _ _ _ ?_))
                    have kd : ∀ W1, KpS [] w4.heap.size w4.drew W1 → Keeps [] w4 W1 := fun W1 h => ⟨h.os, h.tape, h.output, h.size, fun k hk hs => h.block k hk hs⟩
                    refine held_take (i := 0) (v := .bool true) rfl (by kernel_rfl) (by kernel_rfl) (by kernel_rfl) (fun _ _ _ h => h) rfl (fun W1 hW1 => rfl) (KpS.refl _ _ _) ?_
                    simp only [Act.put, List.setIfInBounds_toArray, List.set_cons_zero, List.set_cons_succ]
                    refine held_take (i := 1) (v := .bool false) rfl (by kernel_rfl) (by kernel_rfl) (by kernel_rfl) (fun _ _ _ h => h) rfl (fun W1 hW1 => by go_simp) (KpS.refl _ _ _) ?_
                    simp only [Act.put, List.setIfInBounds_toArray, List.set_cons_zero, List.set_cons_succ]
                    refine held_take (i := 2) (v := .bool false) rfl (by kernel_rfl) (by kernel_rfl) (by kernel_rfl) (fun _ _ _ h => h) rfl (fun W1 hW1 => rfl) (KpS.refl _ _ _) ?_
                    simp only [Act.put, List.setIfInBounds_toArray, List.set_cons_zero, List.set_cons_succ]
                    refine held_takeW (i := 3) (v := .pointer (some ⟨q, 0, none⟩)) rfl (by kernel_rfl) (by kernel_rfl) (by kernel_rfl) (fun _ _ _ h => h) rfl (fun W1 hW1 => rfl) (KpS.refl _ _ _) ?_
                    simp only [Act.put, List.setIfInBounds_toArray, List.set_cons_zero, List.set_cons_succ]
                    refine held_takeW (i := 4) (v := .pointer (some ⟨rq, 0, none⟩)) rfl (by kernel_rfl) (by kernel_rfl) (by kernel_rfl) (fun _ _ _ h => h) rfl (fun W1 hW1 => rfl) (KpS.refl _ _ _) ?_
                    simp only [Act.put, List.setIfInBounds_toArray, List.set_cons_zero, List.set_cons_succ]
                    refine held_doW (i := 5) (by kernel_rfl) rfl rfl (wp_enter (f := 18) (args := #[.pointer (some ⟨q, 0, none⟩), .pointer (some ⟨rq, 0, none⟩)]) (by go_simp) (looks_any w4.drew q p g rq rp f hs9 s9 _ _ _ _ (P9.out.keep (kd _ (KpS.refl _ _ _))).lk) ?_)
                    rintro e wl ⟨rfl, kl⟩
                    have sl : KpS [] w4.heap.size w4.drew wl := (KpS.refl _ _ w4.drew).keeps kl (by simp) (by simp)
                    refine ⟨_, rfl, sl, ?_⟩
                    simp only [Act.put, List.setIfInBounds_toArray, List.set_cons_zero, List.set_cons_succ]
                    refine held_takeW (i := 6) (v := .bool false) rfl (by kernel_rfl) (by kernel_rfl) (by kernel_rfl) (fun _ _ _ h => h) rfl (fun W1 hW1 => by go_simp) (sl) ?_
                    simp only [Act.put, List.setIfInBounds_toArray, List.set_cons_zero, List.set_cons_succ]
                    refine held_take (i := 7) (v := .bool false) rfl (by kernel_rfl) (by kernel_rfl) (by kernel_rfl) (fun _ _ _ h => h) rfl (fun W1 hW1 => by go_simp) (sl) ?_
                    simp only [Act.put, List.setIfInBounds_toArray, List.set_cons_zero, List.set_cons_succ]
                    refine held_take (i := 8) (v := .bool false) rfl (by kernel_rfl) (by kernel_rfl) (by kernel_rfl) (fun _ _ _ h => h) rfl (fun W1 hW1 => rfl) (sl) ?_
                    simp only [Act.put, List.setIfInBounds_toArray, List.set_cons_zero, List.set_cons_succ]
                    refine held_takeW (i := 9) (v := .pointer (some ⟨p, 0, none⟩)) rfl (by kernel_rfl) (by kernel_rfl) (by kernel_rfl) (fun _ _ _ h => h) rfl (fun W1 hW1 => rfl) (sl) ?_
                    simp only [Act.put, List.setIfInBounds_toArray, List.set_cons_zero, List.set_cons_succ]
                    refine held_takeW (i := 11) (v := .pointer (some ⟨rp, 0, none⟩)) rfl (by kernel_rfl) (by kernel_rfl) (by kernel_rfl) (fun _ _ _ h => h) rfl (fun W1 hW1 => rfl) (sl) ?_
                    simp only [Act.put, List.setIfInBounds_toArray, List.set_cons_zero, List.set_cons_succ]
                    refine held_takeW (i := 12) (v := .pointer (some ⟨rp, 0, none⟩)) rfl (by kernel_rfl) (by kernel_rfl) (by kernel_rfl) (fun _ _ _ h => h) rfl (fun W1 hW1 => by go_simp) (sl) ?_
                    simp only [Act.put, List.setIfInBounds_toArray, List.set_cons_zero, List.set_cons_succ]
                    refine held_takeW (i := 13) (v := .pointer (some ⟨rp, 4, none⟩)) rfl (by kernel_rfl) (by kernel_rfl) (by kernel_rfl) (fun _ _ _ h => h) rfl (fun W1 hW1 => by go_simp) (sl) ?_
                    simp only [Act.put, List.setIfInBounds_toArray, List.set_cons_zero, List.set_cons_succ]
                    refine held_takeW (i := 14) (v := .int .i64 s9.ops) rfl (by kernel_rfl) (by kernel_rfl) (by kernel_rfl) (fun _ _ _ h => h) rfl (fun W1 hW1 => exec_load _ _ _ _ rfl rfl (run_loadCell W1 _ _ _ (keeps_cell4 (kd W1 hW1) RK9 (by simp)) (agg_no _ (by kernel_rfl)))) (sl) ?_
                    simp only [Act.put, List.setIfInBounds_toArray, List.set_cons_zero, List.set_cons_succ]
                    refine held_doW (i := 10) (by kernel_rfl) rfl rfl (wp_enter (f := 19) (args := #[.pointer (some ⟨p, 0, none⟩)]) (by go_simp) (opsAt_any wl p s9 _ _ (P9.out.keep (kd wl sl)).c.dk) ?_)
                    rintro e _ ⟨rfl, rfl⟩
                    refine ⟨_, rfl, sl, ?_⟩
                    simp only [Act.put, List.setIfInBounds_toArray, List.set_cons_zero, List.set_cons_succ]
                    refine held_takeW (i := 15) (v := .bool false) rfl (by kernel_rfl) (by kernel_rfl) (by kernel_rfl) (fun _ _ _ h => h) rfl (fun W1 hW1 => by go_simp) (sl) ?_
                    simp only [Act.put, List.setIfInBounds_toArray, List.set_cons_zero, List.set_cons_succ]
                    refine held_take (i := 16) (v := .bool false) rfl (by kernel_rfl) (by kernel_rfl) (by kernel_rfl) (fun _ _ _ h => h) rfl (fun W1 hW1 => by go_simp) (sl) ?_
                    simp only [Act.put, List.setIfInBounds_toArray, List.set_cons_zero, List.set_cons_succ]
                    refine wpAnyH_done (by kernel_rfl) (NoPanic.normal ?_) _
                    have PZ := hid (P9.out.keep (kd wl sl))
                    clear RK9 sl kl P9 kd
                    go_wp2_with fail
                    go_roundw
                    case rel => exact ⟨j + 1, _, _, _, _, _, by omega, by go_num, PZ.out.mono (by omega)⟩
                    case measure => simp [intOf]; omega
                  · have h5' : (A == 5) = false := by simp [h5]
                    by_cases h6 : A = 6
                    · subst h6
                      have h6' : ((6 : Int) == 6) = true := rfl
                      go_wp2_with (first | (refine wpList_loadD5 rfl _ rfl _ _ rfl ⟨6, I, N, .slice ka key.length kc, .slice ba b.length bc, key, b⟩ DA.out ?_) | (refine wpList_allocD5 rfl rfl ?_) | (refine wpList_storeD5New rfl _ _ rfl wr rfl _ rfl rfl ⟨6, I, N, .slice ka key.length kc, .slice ba b.length bc, key, b⟩ rfl rfl rfl ?_) | fail)
                      generalize wr.alloc (.cells (D5.cells ⟨6, I, N, .slice ka key.length kc, .slice ba b.length bc, key, b⟩).toArray 40) = wx at P1 q1 q2 q3 q4 QB BL ⊢
                      generalize wr.heap.size = bx at q1 q2 q3 q4 QB BN BL ⊢
                      clear q0 DA
                      refine (lClear_any wx q p g f hs s F _ P1.out.c (by omega) I).mono ?_
                      rintro e w2 ⟨rfl, F2, d2, k2, fr2⟩
                      have P2 := hid (P1.out.code d2 k2 fr2 (by omega))
                      replace q1 : w2.cell? ⟨bx, 1, none⟩ = some (.int .i64 I) := keeps_cell4 k2 q1 BN.out.1
                      clear d2 k2 fr2 P1 q2 q3 q4
                      go_wp2_with fail
                      refine (rclear_any w2 rq rp f hs s M G _ P2.out.r (by omega) I).mono ?_
                      intro e w3 hp
                      obtain ⟨M3, G3, P3⟩ := P2.out.ref hp (by omega)
                      obtain rfl := hp.is
                      clear hp P2 q1
                      generalize clearE hs f s I = er
                      generalize clearH hs f s I = hs9 at P3
                      generalize clearS hs f s I = s9 at P3
                      have P9 := hid P3
                      clear P3
                      go_wp2_with fail
                      have RK9 := P9.out.r.dk.cells.1
                      refine wp_region_noPanic (wp_region_any (by kernel_rfl) (wpAny_of_held (S := KpS [] w3.heap.size w3.drew) _ _ _ _ ?_))
                      have kd : ∀ W1, KpS [] w3.heap.size w3.drew W1 → Keeps [] w3 W1 := fun W1 h => ⟨h.os, h.tape, h.output, h.size, fun k hk hs => h.block k hk hs⟩
                      refine held_take (i := 0) (v := .bool true) rfl (by kernel_rfl) (by kernel_rfl) (by kernel_rfl) (fun _ _ _ h => h) rfl (fun W1 hW1 => rfl) (KpS.refl _ _ _) ?_
                      simp only [Act.put, List.setIfInBounds_toArray, List.set_cons_zero, List.set_cons_succ]
                      refine held_take (i := 1) (v := .bool false) rfl (by kernel_rfl) (by kernel_rfl) (by kernel_rfl) (fun _ _ _ h => h) rfl (fun W1 hW1 => by go_simp) (KpS.refl _ _ _) ?_
                      simp only [Act.put, List.setIfInBounds_toArray, List.set_cons_zero, List.set_cons_succ]
                      refine held_take (i := 2) (v := .bool false) rfl (by kernel_rfl) (by kernel_rfl) (by kernel_rfl) (fun _ _ _ h => h) rfl (fun W1 hW1 => rfl) (KpS.refl _ _ _) ?_
                      simp only [Act.put, List.setIfInBounds_toArray, List.set_cons_zero, List.set_cons_succ]
                      refine held_takeW (i := 3) (v := .pointer (some ⟨q, 0, none⟩)) rfl (by kernel_rfl) (by kernel_rfl) (by kernel_rfl) (fun _ _ _ h => h) rfl (fun W1 hW1 => rfl) (KpS.refl _ _ _) ?_
                      simp only [Act.put, List.setIfInBounds_toArray, List.set_cons_zero, List.set_cons_succ]
                      refine held_takeW (i := 4) (v := .pointer (some ⟨rq, 0, none⟩)) rfl (by kernel_rfl) (by kernel_rfl) (by kernel_rfl) (fun _ _ _ h => h) rfl (fun W1 hW1 => rfl) (KpS.refl _ _ _) ?_
                      simp only [Act.put, List.setIfInBounds_toArray, List.set_cons_zero, List.set_cons_succ]
                      refine held_doW (i := 5) (by kernel_rfl) rfl rfl (wp_enter (f := 18) (args := #[.pointer (some ⟨q, 0, none⟩), .pointer (some ⟨rq, 0, none⟩)]) (by go_simp) (looks_any w3.drew q p g rq rp f hs9 s9 _ _ _ _ (P9.out.keep (kd _ (KpS.refl _ _ _))).lk) ?_)
                      rintro e wl ⟨rfl, kl⟩
                      have sl : KpS [] w3.heap.size w3.drew wl := (KpS.refl _ _ w3.drew).keeps kl (by simp) (by simp)
                      refine ⟨_, rfl, sl, ?_⟩
                      simp only [Act.put, List.setIfInBounds_toArray, List.set_cons_zero, List.set_cons_succ]
                      refine held_takeW (i := 6) (v := .bool false) rfl (by kernel_rfl) (by kernel_rfl) (by kernel_rfl) (fun _ _ _ h => h) rfl (fun W1 hW1 => by go_simp) (sl) ?_
                      simp only [Act.put, List.setIfInBounds_toArray, List.set_cons_zero, List.set_cons_succ]
                      refine held_take (i := 7) (v := .bool false) rfl (by kernel_rfl) (by kernel_rfl) (by kernel_rfl) (fun _ _ _ h => h) rfl (fun W1 hW1 => by go_simp) (sl) ?_
                      simp only [Act.put, List.setIfInBounds_toArray, List.set_cons_zero, List.set_cons_succ]
                      refine held_take (i := 8) (v := .bool false) rfl (by kernel_rfl) (by kernel_rfl) (by kernel_rfl) (fun _ _ _ h => h) rfl (fun W1 hW1 => rfl) (sl) ?_
                      simp only [Act.put, List.setIfInBounds_toArray, List.set_cons_zero, List.set_cons_succ]
                      refine held_takeW (i := 9) (v := .pointer (some ⟨p, 0, none⟩)) rfl (by kernel_rfl) (by kernel_rfl) (by kernel_rfl) (fun _ _ _ h => h) rfl (fun W1 hW1 => rfl) (sl) ?_
                      simp only [Act.put, List.setIfInBounds_toArray, List.set_cons_zero, List.set_cons_succ]
                      refine held_takeW (i := 11) (v := .pointer (some ⟨rp, 0, none⟩)) rfl (by kernel_rfl) (by kernel_rfl) (by kernel_rfl) (fun _ _ _ h => h) rfl (fun W1 hW1 => rfl) (sl) ?_
                      simp only [Act.put, List.setIfInBounds_toArray, List.set_cons_zero, List.set_cons_succ]
                      refine held_takeW (i := 12) (v := .pointer (some ⟨rp, 0, none⟩)) rfl (by kernel_rfl) (by kernel_rfl) (by kernel_rfl) (fun _ _ _ h => h) rfl (fun W1 hW1 => by go_simp) (sl) ?_
                      simp only [Act.put, List.setIfInBounds_toArray, List.set_cons_zero, List.set_cons_succ]
                      refine held_takeW (i := 13) (v := .pointer (some ⟨rp, 4, none⟩)) rfl (by kernel_rfl) (by kernel_rfl) (by kernel_rfl) (fun _ _ _ h => h) rfl (fun W1 hW1 => by go_simp) (sl) ?_
                      simp only [Act.put, List.setIfInBounds_toArray, List.set_cons_zero, List.set_cons_succ]
                      refine held_takeW (i := 14) (v := .int .i64 s9.ops) rfl (by kernel_rfl) (by kernel_rfl) (by kernel_rfl) (fun _ _ _ h => h) rfl (fun W1 hW1 => exec_load _ _ _ _ rfl rfl (run_loadCell W1 _ _ _ (keeps_cell4 (kd W1 hW1) RK9 (by simp)) (agg_no _ (by kernel_rfl)))) (sl) ?_
                      simp only [Act.put, List.setIfInBounds_toArray, List.set_cons_zero, List.set_cons_succ]
                      refine held_doW (i := 10) (by kernel_rfl) rfl rfl (wp_enter (f := 19) (args := #[.pointer (some ⟨p, 0, none⟩)]) (by go_simp) (opsAt_any wl p s9 _ _ (P9.out.keep (kd wl sl)).c.dk) ?_)
                      rintro e _ ⟨rfl, rfl⟩
                      refine ⟨_, rfl, sl, ?_⟩
                      simp only [Act.put, List.setIfInBounds_toArray, List.set_cons_zero, List.set_cons_succ]
                      refine held_takeW (i := 15) (v := .bool false) rfl (by kernel_rfl) (by kernel_rfl) (by kernel_rfl) (fun _ _ _ h => h) rfl (fun W1 hW1 => by go_simp) (sl) ?_
                      simp only [Act.put, List.setIfInBounds_toArray, List.set_cons_zero, List.set_cons_succ]
                      refine held_take (i := 16) (v := .bool false) rfl (by kernel_rfl) (by kernel_rfl) (by kernel_rfl) (fun _ _ _ h => h) rfl (fun W1 hW1 => by go_simp) (sl) ?_
                      simp only [Act.put, List.setIfInBounds_toArray, List.set_cons_zero, List.set_cons_succ]
                      refine wpAnyH_done (by kernel_rfl) (NoPanic.normal ?_) _
                      have PZ := hid (P9.out.keep (kd wl sl))
                      clear RK9 sl kl P9 kd
                      go_wp2_with fail
                      go_roundw
                      case rel => exact ⟨j + 1, _, _, _, _, _, by omega, by go_num, PZ.out.mono (by omega)⟩
                      case measure => simp [intOf]; omega
                    · have h6' : (A == 6) = false := by simp [h6]
                      go_wp2_with (first | (refine wpList_loadD5 rfl _ rfl _ _ rfl ⟨A, I, N, .slice ka key.length kc, .slice ba b.length bc, key, b⟩ DA.out ?_) | (refine wpList_allocD5 rfl rfl ?_) | (refine wpList_storeD5New rfl _ _ rfl wr rfl _ rfl rfl ⟨A, I, N, .slice ka key.length kc, .slice ba b.length bc, key, b⟩ rfl rfl rfl ?_) | fail)
                      generalize wr.alloc (.cells (D5.cells ⟨A, I, N, .slice ka key.length kc, .slice ba b.length bc, key, b⟩).toArray 40) = wx at P1 q1 q2 q3 q4 QB BL ⊢
                      generalize wr.heap.size = bx at q1 q2 q3 q4 QB BN BL ⊢
                      clear q0 DA
                      have hN : -9223372036854775808 ≤ N ∧ N ≤ 9223372036854775807 := DB2.out
                      refine (fuseAt_any wx p s F _ P1.out.c.dk N hN).mono ?_
                      rintro e w2 ⟨rfl, D1, k2⟩
                      have hqF := P1.out.c.hq
                      have hgF := P1.out.c.hg
                      have P2 := hid (P1.out.code (hs' := hs) ⟨P1.out.c.sl.keep k2 hqF hgF, D1, hqF, hgF, by rw [fuseS_cnt]; exact P1.out.c.fit⟩ (k2.mono (fun _ _ h => List.mem_cons_of_mem _ h)) (fun _ h => .inl h) (Nat.le_refl _))
                      have FT := hid (show (fuseS s N).Fit (60 * j) from ⟨D1.1, by
                        have := P1.out.r.fit.ll
                        have e : (fuseS s N).loose = s.loose := by unfold fuseS; split <;> rfl
                        rw [e]; exact this⟩)
                      replace q2 : w2.cell? ⟨bx, 2, none⟩ = some (.int .i64 N) := keeps_cell4 k2 q2 (fun h => BN.out.1 (List.mem_cons_of_mem _ h))
                      clear D1 k2 P1 q1 q3 q4 hqF hgF
                      obtain ⟨R9, c9, f9⟩ := P2.out.r.dk.fused N hN
                      obtain ⟨v5, c5⟩ := Option.ne_none_iff_exists'.1 c9
                      have hrG := P2.out.r.dk.cells.2.2.2.1
                      by_cases hn : N < -1
                      · have hm : max N (-1) = -1 := by omega
                        rw [hm] at R9
                        have hrM : rp ∉ M := fun h => P2.out.r.dis rp h hrG
                        have kf : Keeps G w2 (w2.setCell ⟨rp, 5, none⟩ (.int .i64 (-1))) := (Keeps.refl G w2).setCell (p := ⟨rp, 5, none⟩) (.inl hrG) _
                        have RP : RdPost w2 rq rp f hs (fuseS s N) M G (60 * j) 0 (.returned (.int .i64 0)) (w2.setCell ⟨rp, 5, none⟩ (.int .i64 (-1))) :=
                          ⟨rfl, M, G, ⟨P2.out.r.sl.keep kf P2.out.r.dis, R9, P2.out.r.dis, FT.out, by rw [fuseS_cnt]; exact P2.out.r.room, P2.out.r.ok⟩, kf.mono (fun _ _ h => List.mem_append.2 (.inr h)), fun _ h => .inl h, fun _ h => .inl h⟩
                        obtain ⟨M3, G3, P3⟩ := P2.out.ref RP (Nat.le_refl _)
                        have P4 := hid P3
                        clear P3 RP R9 c9 P2 hrG hrM kf hm FT
                        go_wp2_with fail
                        generalize w2.setCell ⟨rp, 5, none⟩ (.int .i64 (-1)) = w3 at P4 ⊢
                        clear c5 f9 q2
                        obtain ⟨hs9, e9⟩ : ∃ hs9, hs9 = hs := ⟨_, rfl⟩
                        obtain ⟨s9, e8⟩ : ∃ s9, s9 = fuseS s N := ⟨_, rfl⟩
                        rw [← e9, ← e8] at P4
                        have P9 := hid P4.out
                        clear P4 e8 e9
                        have RK9 := P9.out.r.dk.cells.1
                        refine wp_region_noPanic (wp_region_any (by kernel_rfl) (wpAny_of_held (S := KpS [] w3.heap.size w3.drew) _ _ _ _ ?_))
                        have kd : ∀ W1, KpS [] w3.heap.size w3.drew W1 → Keeps [] w3 W1 := fun W1 h => ⟨h.os, h.tape, h.output, h.size, fun k hk hs => h.block k hk hs⟩
                        refine held_take (i := 0) (v := .bool true) rfl (by kernel_rfl) (by kernel_rfl) (by kernel_rfl) (fun _ _ _ h => h) rfl (fun W1 hW1 => rfl) (KpS.refl _ _ _) ?_
                        simp only [Act.put, List.setIfInBounds_toArray, List.set_cons_zero, List.set_cons_succ]
                        refine held_take (i := 1) (v := .bool false) rfl (by kernel_rfl) (by kernel_rfl) (by kernel_rfl) (fun _ _ _ h => h) rfl (fun W1 hW1 => by go_simp) (KpS.refl _ _ _) ?_
                        simp only [Act.put, List.setIfInBounds_toArray, List.set_cons_zero, List.set_cons_succ]
                        refine held_take (i := 2) (v := .bool false) rfl (by kernel_rfl) (by kernel_rfl) (by kernel_rfl) (fun _ _ _ h => h) rfl (fun W1 hW1 => rfl) (KpS.refl _ _ _) ?_
                        simp only [Act.put, List.setIfInBounds_toArray, List.set_cons_zero, List.set_cons_succ]
                        refine held_takeW (i := 3) (v := .pointer (some ⟨q, 0, none⟩)) rfl (by kernel_rfl) (by kernel_rfl) (by kernel_rfl) (fun _ _ _ h => h) rfl (fun W1 hW1 => rfl) (KpS.refl _ _ _) ?_
                        simp only [Act.put, List.setIfInBounds_toArray, List.set_cons_zero, List.set_cons_succ]
                        refine held_takeW (i := 4) (v := .pointer (some ⟨rq, 0, none⟩)) rfl (by kernel_rfl) (by kernel_rfl) (by kernel_rfl) (fun _ _ _ h => h) rfl (fun W1 hW1 => rfl) (KpS.refl _ _ _) ?_
                        simp only [Act.put, List.setIfInBounds_toArray, List.set_cons_zero, List.set_cons_succ]
                        refine held_doW (i := 5) (by kernel_rfl) rfl rfl (wp_enter (f := 18) (args := #[.pointer (some ⟨q, 0, none⟩), .pointer (some ⟨rq, 0, none⟩)]) (by go_simp) (looks_any w3.drew q p g rq rp f hs9 s9 _ _ _ _ (P9.out.keep (kd _ (KpS.refl _ _ _))).lk) ?_)
                        rintro e wl ⟨rfl, kl⟩
                        have sl : KpS [] w3.heap.size w3.drew wl := (KpS.refl _ _ w3.drew).keeps kl (by simp) (by simp)
                        refine ⟨_, rfl, sl, ?_⟩
                        simp only [Act.put, List.setIfInBounds_toArray, List.set_cons_zero, List.set_cons_succ]
                        refine held_takeW (i := 6) (v := .bool false) rfl (by kernel_rfl) (by kernel_rfl) (by kernel_rfl) (fun _ _ _ h => h) rfl (fun W1 hW1 => by go_simp) (sl) ?_
                        simp only [Act.put, List.setIfInBounds_toArray, List.set_cons_zero, List.set_cons_succ]
                        refine held_take (i := 7) (v := .bool false) rfl (by kernel_rfl) (by kernel_rfl) (by kernel_rfl) (fun _ _ _ h => h) rfl (fun W1 hW1 => by go_simp) (sl) ?_
                        simp only [Act.put, List.setIfInBounds_toArray, List.set_cons_zero, List.set_cons_succ]
                        refine held_take (i := 8) (v := .bool false) rfl (by kernel_rfl) (by kernel_rfl) (by kernel_rfl) (fun _ _ _ h => h) rfl (fun W1 hW1 => rfl) (sl) ?_
                        simp only [Act.put, List.setIfInBounds_toArray, List.set_cons_zero, List.set_cons_succ]
                        refine held_takeW (i := 9) (v := .pointer (some ⟨p, 0, none⟩)) rfl (by kernel_rfl) (by kernel_rfl) (by kernel_rfl) (fun _ _ _ h => h) rfl (fun W1 hW1 => rfl) (sl) ?_
                        simp only [Act.put, List.setIfInBounds_toArray, List.set_cons_zero, List.set_cons_succ]
                        refine held_takeW (i := 11) (v := .pointer (some ⟨rp, 0, none⟩)) rfl (by kernel_rfl) (by kernel_rfl) (by kernel_rfl) (fun _ _ _ h => h) rfl (fun W1 hW1 => rfl) (sl) ?_
                        simp only [Act.put, List.setIfInBounds_toArray, List.set_cons_zero, List.set_cons_succ]
                        refine held_takeW (i := 12) (v := .pointer (some ⟨rp, 0, none⟩)) rfl (by kernel_rfl) (by kernel_rfl) (by kernel_rfl) (fun _ _ _ h => h) rfl (fun W1 hW1 => by go_simp) (sl) ?_
                        simp only [Act.put, List.setIfInBounds_toArray, List.set_cons_zero, List.set_cons_succ]
                        refine held_takeW (i := 13) (v := .pointer (some ⟨rp, 4, none⟩)) rfl (by kernel_rfl) (by kernel_rfl) (by kernel_rfl) (fun _ _ _ h => h) rfl (fun W1 hW1 => by go_simp) (sl) ?_
                        simp only [Act.put, List.setIfInBounds_toArray, List.set_cons_zero, List.set_cons_succ]
                        refine held_takeW (i := 14) (v := .int .i64 s9.ops) rfl (by kernel_rfl) (by kernel_rfl) (by kernel_rfl) (fun _ _ _ h => h) rfl (fun W1 hW1 => exec_load _ _ _ _ rfl rfl (run_loadCell W1 _ _ _ (keeps_cell4 (kd W1 hW1) RK9 (by simp)) (agg_no _ (by kernel_rfl)))) (sl) ?_
                        simp only [Act.put, List.setIfInBounds_toArray, List.set_cons_zero, List.set_cons_succ]
                        refine held_doW (i := 10) (by kernel_rfl) rfl rfl (wp_enter (f := 19) (args := #[.pointer (some ⟨p, 0, none⟩)]) (by go_simp) (opsAt_any wl p s9 _ _ (P9.out.keep (kd wl sl)).c.dk) ?_)
                        rintro e _ ⟨rfl, rfl⟩
                        refine ⟨_, rfl, sl, ?_⟩
                        simp only [Act.put, List.setIfInBounds_toArray, List.set_cons_zero, List.set_cons_succ]
                        refine held_takeW (i := 15) (v := .bool false) rfl (by kernel_rfl) (by kernel_rfl) (by kernel_rfl) (fun _ _ _ h => h) rfl (fun W1 hW1 => by go_simp) (sl) ?_
                        simp only [Act.put, List.setIfInBounds_toArray, List.set_cons_zero, List.set_cons_succ]
                        refine held_take (i := 16) (v := .bool false) rfl (by kernel_rfl) (by kernel_rfl) (by kernel_rfl) (fun _ _ _ h => h) rfl (fun W1 hW1 => by go_simp) (sl) ?_
                        simp only [Act.put, List.setIfInBounds_toArray, List.set_cons_zero, List.set_cons_succ]
                        refine wpAnyH_done (by kernel_rfl) (NoPanic.normal ?_) _
                        have PZ := hid (P9.out.keep (kd wl sl))
                        clear RK9 sl kl P9 kd
                        go_wp2_with fail
                        go_roundw
                        case rel => exact ⟨j + 1, _, _, _, _, _, by omega, by go_num, PZ.out.mono (by omega)⟩
                        case measure => simp [intOf]; omega
                      · have hm : max N (-1) = N := by omega
                        rw [hm] at R9
                        have hrM : rp ∉ M := fun h => P2.out.r.dis rp h hrG
                        have kf : Keeps G w2 (w2.setCell ⟨rp, 5, none⟩ (.int .i64 (N))) := (Keeps.refl G w2).setCell (p := ⟨rp, 5, none⟩) (.inl hrG) _
                        have RP : RdPost w2 rq rp f hs (fuseS s N) M G (60 * j) 0 (.returned (.int .i64 0)) (w2.setCell ⟨rp, 5, none⟩ (.int .i64 (N))) :=
                          ⟨rfl, M, G, ⟨P2.out.r.sl.keep kf P2.out.r.dis, R9, P2.out.r.dis, FT.out, by rw [fuseS_cnt]; exact P2.out.r.room, P2.out.r.ok⟩, kf.mono (fun _ _ h => List.mem_append.2 (.inr h)), fun _ h => .inl h, fun _ h => .inl h⟩
                        obtain ⟨M3, G3, P3⟩ := P2.out.ref RP (Nat.le_refl _)
                        have P4 := hid P3
                        clear P3 RP R9 c9 P2 hrG hrM kf hm FT
                        go_wp2_with fail
                        generalize w2.setCell ⟨rp, 5, none⟩ (.int .i64 (N)) = w3 at P4 ⊢
                        clear c5 f9 q2
                        obtain ⟨hs9, e9⟩ : ∃ hs9, hs9 = hs := ⟨_, rfl⟩
                        obtain ⟨s9, e8⟩ : ∃ s9, s9 = fuseS s N := ⟨_, rfl⟩
                        rw [← e9, ← e8] at P4
                        have P9 := hid P4.out
                        clear P4 e8 e9
                        have RK9 := P9.out.r.dk.cells.1
                        refine wp_region_noPanic (wp_region_any (by kernel_rfl) (wpAny_of_held (S := KpS [] w3.heap.size w3.drew) _ _ _ _ ?_))
                        have kd : ∀ W1, KpS [] w3.heap.size w3.drew W1 → Keeps [] w3 W1 := fun W1 h => ⟨h.os, h.tape, h.output, h.size, fun k hk hs => h.block k hk hs⟩
                        refine held_take (i := 0) (v := .bool true) rfl (by kernel_rfl) (by kernel_rfl) (by kernel_rfl) (fun _ _ _ h => h) rfl (fun W1 hW1 => rfl) (KpS.refl _ _ _) ?_
                        simp only [Act.put, List.setIfInBounds_toArray, List.set_cons_zero, List.set_cons_succ]
                        refine held_take (i := 1) (v := .bool false) rfl (by kernel_rfl) (by kernel_rfl) (by kernel_rfl) (fun _ _ _ h => h) rfl (fun W1 hW1 => by go_simp) (KpS.refl _ _ _) ?_
                        simp only [Act.put, List.setIfInBounds_toArray, List.set_cons_zero, List.set_cons_succ]
                        refine held_take (i := 2) (v := .bool false) rfl (by kernel_rfl) (by kernel_rfl) (by kernel_rfl) (fun _ _ _ h => h) rfl (fun W1 hW1 => rfl) (KpS.refl _ _ _) ?_
                        simp only [Act.put, List.setIfInBounds_toArray, List.set_cons_zero, List.set_cons_succ]
                        refine held_takeW (i := 3) (v := .pointer (some ⟨q, 0, none⟩)) rfl (by kernel_rfl) (by kernel_rfl) (by kernel_rfl) (fun _ _ _ h => h) rfl (fun W1 hW1 => rfl) (KpS.refl _ _ _) ?_
                        simp only [Act.put, List.setIfInBounds_toArray, List.set_cons_zero, List.set_cons_succ]
                        refine held_takeW (i := 4) (v := .pointer (some ⟨rq, 0, none⟩)) rfl (by kernel_rfl) (by kernel_rfl) (by kernel_rfl) (fun _ _ _ h => h) rfl (fun W1 hW1 => rfl) (KpS.refl _ _ _) ?_
                        simp only [Act.put, List.setIfInBounds_toArray, List.set_cons_zero, List.set_cons_succ]
                        refine held_doW (i := 5) (by kernel_rfl) rfl rfl (wp_enter (f := 18) (args := #[.pointer (some ⟨q, 0, none⟩), .pointer (some ⟨rq, 0, none⟩)]) (by go_simp) (looks_any w3.drew q p g rq rp f hs9 s9 _ _ _ _ (P9.out.keep (kd _ (KpS.refl _ _ _))).lk) ?_)
                        rintro e wl ⟨rfl, kl⟩
                        have sl : KpS [] w3.heap.size w3.drew wl := (KpS.refl _ _ w3.drew).keeps kl (by simp) (by simp)
                        refine ⟨_, rfl, sl, ?_⟩
                        simp only [Act.put, List.setIfInBounds_toArray, List.set_cons_zero, List.set_cons_succ]
                        refine held_takeW (i := 6) (v := .bool false) rfl (by kernel_rfl) (by kernel_rfl) (by kernel_rfl) (fun _ _ _ h => h) rfl (fun W1 hW1 => by go_simp) (sl) ?_
                        simp only [Act.put, List.setIfInBounds_toArray, List.set_cons_zero, List.set_cons_succ]
                        refine held_take (i := 7) (v := .bool false) rfl (by kernel_rfl) (by kernel_rfl) (by kernel_rfl) (fun _ _ _ h => h) rfl (fun W1 hW1 => by go_simp) (sl) ?_
                        simp only [Act.put, List.setIfInBounds_toArray, List.set_cons_zero, List.set_cons_succ]
                        refine held_take (i := 8) (v := .bool false) rfl (by kernel_rfl) (by kernel_rfl) (by kernel_rfl) (fun _ _ _ h => h) rfl (fun W1 hW1 => rfl) (sl) ?_
                        simp only [Act.put, List.setIfInBounds_toArray, List.set_cons_zero, List.set_cons_succ]
                        refine held_takeW (i := 9) (v := .pointer (some ⟨p, 0, none⟩)) rfl (by kernel_rfl) (by kernel_rfl) (by kernel_rfl) (fun _ _ _ h => h) rfl (fun W1 hW1 => rfl) (sl) ?_
                        simp only [Act.put, List.setIfInBounds_toArray, List.set_cons_zero, List.set_cons_succ]
                        refine held_takeW (i := 11) (v := .pointer (some ⟨rp, 0, none⟩)) rfl (by kernel_rfl) (by kernel_rfl) (by kernel_rfl) (fun _ _ _ h => h) rfl (fun W1 hW1 => rfl) (sl) ?_
                        simp only [Act.put, List.setIfInBounds_toArray, List.set_cons_zero, List.set_cons_succ]
                        refine held_takeW (i := 12) (v := .pointer (some ⟨rp, 0, none⟩)) rfl (by kernel_rfl) (by kernel_rfl) (by kernel_rfl) (fun _ _ _ h => h) rfl (fun W1 hW1 => by go_simp) (sl) ?_
                        simp only [Act.put, List.setIfInBounds_toArray, List.set_cons_zero, List.set_cons_succ]
                        refine held_takeW (i := 13) (v := .pointer (some ⟨rp, 4, none⟩)) rfl (by kernel_rfl) (by kernel_rfl) (by kernel_rfl) (fun _ _ _ h => h) rfl (fun W1 hW1 => by go_simp) (sl) ?_
                        simp only [Act.put, List.setIfInBounds_toArray, List.set_cons_zero, List.set_cons_succ]
                        refine held_takeW (i := 14) (v := .int .i64 s9.ops) rfl (by kernel_rfl) (by kernel_rfl) (by kernel_rfl) (fun _ _ _ h => h) rfl (fun W1 hW1 => exec_load _ _ _ _ rfl rfl (run_loadCell W1 _ _ _ (keeps_cell4 (kd W1 hW1) RK9 (by simp)) (agg_no _ (by kernel_rfl)))) (sl) ?_
                        simp only [Act.put, List.setIfInBounds_toArray, List.set_cons_zero, List.set_cons_succ]
                        refine held_doW (i := 10) (by kernel_rfl) rfl rfl (wp_enter (f := 19) (args := #[.pointer (some ⟨p, 0, none⟩)]) (by go_simp) (opsAt_any wl p s9 _ _ (P9.out.keep (kd wl sl)).c.dk) ?_)
                        rintro e _ ⟨rfl, rfl⟩
                        refine ⟨_, rfl, sl, ?_⟩
                        simp only [Act.put, List.setIfInBounds_toArray, List.set_cons_zero, List.set_cons_succ]
                        refine held_takeW (i := 15) (v := .bool false) rfl (by kernel_rfl) (by kernel_rfl) (by kernel_rfl) (fun _ _ _ h => h) rfl (fun W1 hW1 => by go_simp) (sl) ?_
                        simp only [Act.put, List.setIfInBounds_toArray, List.set_cons_zero, List.set_cons_succ]
                        refine held_take (i := 16) (v := .bool false) rfl (by kernel_rfl) (by kernel_rfl) (by kernel_rfl) (fun _ _ _ h => h) rfl (fun W1 hW1 => by go_simp) (sl) ?_
                        simp only [Act.put, List.setIfInBounds_toArray, List.set_cons_zero, List.set_cons_succ]
                        refine wpAnyH_done (by kernel_rfl) (NoPanic.normal ?_) _
                        have PZ := hid (P9.out.keep (kd wl sl))
                        clear RK9 sl kl P9 kd
                        go_wp2_with fail
                        go_roundw
                        case rel => exact ⟨j + 1, _, _, _, _, _, by omega, by go_num, PZ.out.mono (by omega)⟩
                        case measure => simp [intOf]; omega
              · have : j = l.length := by omega
                subst this
                have hlt' : ¬ (l.length : Int) < (l.length : Int) := by omega
                go_wp2_with fail
                have hcnt := PP.out.r.fit.ok.hi
                have hIL : (imageL s.now s.cnt).length ≤ 1000000 := by rw [imageL_len]; omega
                refine (imageAt_any wr p s F _ PP.out.c.dk).mono ?_
                rintro e w2 ⟨v2, rfl, r2, -, k2⟩
                have P2 := hid (PP.out.keep k2)
                have X2 := hid r2
                clear k2 r2 PP
                go_wp2_with fail
                refine (ri_any w2 rp s G P2.out.r.dk _ P2.out.r.fit.ok).mono ?_
                rintro e w3 ⟨v3, rfl, r3, k3⟩
                have P3 := hid (P2.out.keep k3)
                have Y3 := hid r3
                have X3 := hid (X2.out.keep k3 (by intro _ _ _ _ _; simp))
                clear k3 r3 P2 X2
                go_wp2_with fail
                refine (same_true w3 v2 v3 _ X3.out Y3.out hIL).mono ?_
                rintro e w4 ⟨rfl, k4⟩
                have K9 := hid (P3.out.kp.trans k4)
                clear k4 P3 X3 Y3
                go_wp2_with fail
                go_ret
                exact ⟨rfl, K9.out⟩
          · have hnil : e = .returned (.tuple #[.pointer none, .int .i64 4]) := by
              rcases HLC.out with ⟨h, _⟩ | ⟨_, h⟩
              · exact absurd h hgood
              · exact h
            subst hnil
            have HNG := hid hgood
            clear HLC hgood
            go_wp2_with fail
            refine R3.out.mono ?_
            rintro e w4 ⟨k4, hR⟩
            have hnil : e = .returned (.tuple #[.pointer none, .int .i64 4]) := by
              rcases hR with ⟨h, _⟩ | ⟨_, h⟩
              · exact absurd h HNG.out
              · exact h
            subst hnil
            have KZ := hid ((((K0.out.trans K1.out).trans K2.out).trans K3.out).trans k4)
            clear hR k4
            go_wp2_with fail
            go_ret
            exact ⟨rfl, KZ.out⟩
end Go.Proofs.YtiljhjegfklgmaaGreat
