/- The walk of the law BagPlays. -/
import Derived.Test.YtehbibimfjipiaaBgS
namespace Go.Proofs.Ytehbibimfjipiaa
open Go.RowKit Go.Shelf
set_option maxRecDepth 100000

set_option maxHeartbeats 12800000 in
theorem bPlays_any (W : World) (most : Int) (hmost : i64 most) (v : Value) (ds : List D7) (h : D7sAt W v ds) : Calls Try.prog 4 #[.int .i64 most, v] W fun e W' => e = .returned (.bool true) ∧ Keeps [] W W' := by
  obtain ⟨a, cap, rfl, h1, h2, h0, h3⟩ := h
  have H3 := hid h3
  have HM := hid hmost
  clear h2 h0 h3 hmost
  unfold maxLen at *
  go_enter Try.func4, Try.ntmps4
  go_wp2_with fail
  refine (bAwake_any W).mono ?_
  rintro e w1 ⟨rfl, k1⟩
  have K1 := hid k1
  clear k1
  by_cases hbig : (200 : Int) < ds.length
  · go_wp2_with fail
    go_ret
    exact ⟨rfl, K1.out⟩
  have hlen : ds.length ≤ 200 := by omega
  go_wp2_with fail
  refine (bNew_any w1 most HM.out).mono ?_
  rintro e w2 (⟨hno, rfl, rfl⟩ | ⟨hyes, p, hp, rfl, Hb, k2⟩)
  · go_wp2_with fail
    refine (rbNew_any w1 most HM.out).mono ?_
    rintro e w3 (⟨_, rfl, rfl⟩ | ⟨hy, _⟩)
    · go_wp2_with fail
      go_ret
      exact ⟨rfl, K1.out⟩
    · exact absurd hy hno
  have HB := hid Hb
  have K2 := hid (K1.out.trans k2)
  have HP := hid (show W.heap.size ≤ p by have := K1.out.size; omega)
  clear Hb k2 hp
  go_wp2_with fail
  refine (rbNew_any w2 most HM.out).mono ?_
  rintro e w3 (⟨hno, _⟩ | ⟨_, q, hq, rfl, Hr, k3⟩)
  · exact absurd hyes hno
  have P0 : Hid (PlayAt W w3 p q (bfoot p [] (.slice none 0 0)) (bfoot q [] (.slice none 0 0)) most [] []) := hid (by
    have hp2 := HB.out.lt
    have h1 : ∀ b x, b ∈ bfoot x [] (.slice none 0 0) → b = x := fun b x hb => by
      rcases mem_bfoot.1 hb with h | h | h
      · exact h
      · simp [Value.ownBlock] at h
      · simp at h
    have hz := K2.out.size
    exact ⟨⟨[], _, HB.out.later k3, rfl⟩, ⟨[], _, Hr, rfl⟩, fun b hb hg => by have := h1 b p hb; have := h1 b q hg; omega, fun b hb => by have := h1 b p hb; have := HP.out; omega, fun b hb => by have := h1 b q hb; omega, K2.out.trans k3⟩)
  clear Hr k3 hq hyes
  go_wp2_with fail
  go_loopw [9] (fun iv wr => ∃ (k : Nat) (F G : List Nat) (ms ns : List Mg), k ≤ ds.length ∧ iv = .int .i64 k ∧ PlayAt W wr p q F G most ms ns ∧ ms.map con = ns.map con) (fun iv _ => ds.length - (intOf iv).toNat)
  case atStart => exact ⟨0, _, _, [], [], by omega, rfl, P0.out, rfl⟩
  case round =>
    obtain ⟨k, F, G, ms, ns, hk, rfl, hP, hcon⟩ := hrel
    have P := hid hP
    have CON := hid hcon
    clear hP hcon
    by_cases hlt : k < ds.length
    · obtain ⟨g, off, ha, hd⟩ := H3.out (by intro e; rw [e] at hlt; simp at hlt)
      subst ha
      have INW := hid (hd k hlt).inn
      have D := (hd k hlt).keep P.out.k
      have c0 := D.c0
      have c1 := D.c1
      have c2 := D.c2
      have c3 := D.c3
      have c4 := D.c4
      obtain ⟨ra, rc, hrow, -⟩ := D.inn.row
      have HROW := hid hrow
      rw [hrow] at c4
      have ld := hid (load_d7 c0 c1 c2 c3 c4)
      have A0 := hid D.b0
      have A1 := hid D.b1
      have hfit := D.inn.fit
      clear hd D hrow c0 c1 c2 c3 c4
      by_cases hl : (100 : Int) < (ds[k].m.bs.length : Int)
      · go_wp2_with (first | (refine wpList_is rfl _ _ (exec_load _ _ _ _ rfl rfl ld.out) ?_) | fail)
        go_ret
        exact ⟨rfl, P.out.k.alloc _⟩
      have hl1 : ds[k].m.bs.length ≤ 100 := by omega
      have OK0 : Hid (∀ w', Keeps [] W w' → MgOk w' (List.range w'.heap.size) ds[k].m) := hid fun w' kw => (INW.out.keep kw).ok hl1
      by_cases hA : ds[k].act ≤ 2
      · go_wp2_with (first | (refine wpList_is rfl _ _ (exec_load _ _ _ _ rfl rfl ld.out) ?_) | fail)
        have ka := (Keeps.refl [] wr).alloc (.cells #[.int .i64 ds[k].act, .int .i64 ds[k].n, .int .i64 ds[k].m.f, .int .i64 ds[k].m.t, .slice ra ds[k].m.bs.length rc] 40)
        have ba := heap_alloc_new wr (.cells #[.int .i64 ds[k].act, .int .i64 ds[k].n, .int .i64 ds[k].m.f, .int .i64 ds[k].m.t, .slice ra ds[k].m.bs.length rc] 40)
        have PA := hid (P.out.later ka)
        have BA := hid ba
        have NX := hid (P.out.apart (Nat.le_refl _))
        obtain ⟨x, hx⟩ : ∃ x, x = wr.heap.size := ⟨_, rfl⟩
        rw [← hx] at BA NX ⊢
        generalize wr.alloc (.cells #[.int .i64 ds[k].act, .int .i64 ds[k].n, .int .i64 ds[k].m.f, .int .i64 ds[k].m.t, .slice ra ds[k].m.bs.length rc] 40) = wA at ka BA PA ⊢
        clear ka ba hx
        have BP := bPutF PA.out.b ds[k].m _ (OK0.out _ PA.out.k)
        rw [mgV, HROW.out] at BP
        refine BP.mono ?_
        clear BP
        rintro e wB (⟨hf1, rfl, kB⟩ | ⟨hf1, rfl, F1, m1, b1, hm1, kB, fB⟩)
        · have PB := hid (PA.out.later kB)
          have BB := hid ((kB.block _ (lt_of_block BA.out) (by simp)).trans BA.out)
          clear kB
          obtain ⟨y0, y1, y2, y3, y4⟩ := row_block5 BB.out
          have ldM := hid (loadR (o := 2) y2 y3 y4)
          clear y0 y1 y2 y3 y4
          go_wp2_with (first | (refine wpList_is rfl _ _ (exec_load _ _ _ _ rfl rfl ldM.out) ?_) | fail)
          have RP := rbPutF PB.out.r ds[k].m _ (OK0.out _ PB.out.k)
          rw [mgV, HROW.out] at RP
          refine RP.mono ?_
          clear RP
          rintro e wC (⟨hf2, rfl, kC⟩ | ⟨hf2, _⟩)
          rotate_left
          · have := con_len CON.out; omega
          have PC := hid (PB.out.later kC)
          clear kC
          obtain ⟨XR, vR, hR, hGR⟩ := PC.out.r
          obtain ⟨aR, cR, hvR⟩ := hR.own.shape
          subst hvR
          have LN := con_len CON.out
          have fewB := PC.out.b.few
          have ATR := hid hR.own.at
          have c1R := hR.c1
          have ltR := hR.lt
          rw [← LN] at ATR c1R
          have C1R := hid c1R
          have LTR := hid ltR
          have LNH := hid LN
          clear hR hGR c1R ltR LN
          go_wp2_with fail
          refine wp_region_any (by kernel_rfl) (wpAny_of_held (S := KpS [] wC.heap.size wC.drew) _ _ _ _ ?_)
          change wpAnyH _ _ _ _ _ _ _ _ wC.drew
          have q1 : ∀ W1, KpS [] wC.heap.size wC.drew W1 → W1.cell? ⟨q, 1, none⟩ = some (.slice aR ms.length cR) := fun W1 h => h.cell (by rw [World.cell?_drew]; exact C1R.out) LTR.out (by simp)
          refine held_take (i := 0) (v := .bool true) rfl (by kernel_rfl) (by kernel_rfl) (by kernel_rfl) (fun _ _ _ h => h) rfl (fun W1 hW1 => rfl) (KpS.refl _ _ _) ?_
          simp only [Act.put, List.setIfInBounds_toArray, List.set_cons_zero, List.set_cons_succ]
          refine held_take (i := 1) (v := .bool false) rfl (by kernel_rfl) (by kernel_rfl) (by kernel_rfl) (fun _ _ _ h => h) rfl (fun W1 hW1 => by go_simp) (KpS.refl _ _ _) ?_
          simp only [Act.put, List.setIfInBounds_toArray, List.set_cons_zero, List.set_cons_succ]
          refine held_take (i := 2) (v := .bool false) rfl (by kernel_rfl) (by kernel_rfl) (by kernel_rfl) (fun _ _ _ h => h) rfl (fun W1 hW1 => rfl) (KpS.refl _ _ _) ?_
          simp only [Act.put, List.setIfInBounds_toArray, List.set_cons_zero, List.set_cons_succ]
          refine held_takeW (i := 3) (v := .pointer (some ⟨p, 0, none⟩)) rfl (by kernel_rfl) (by kernel_rfl) (by kernel_rfl) (fun _ _ _ h => h) rfl (fun W1 hW1 => rfl) (KpS.refl _ _ _) ?_
          simp only [Act.put, List.setIfInBounds_toArray, List.set_cons_zero, List.set_cons_succ]
          refine held_takeW (i := 5) (v := .pointer (some ⟨q, 0, none⟩)) rfl (by kernel_rfl) (by kernel_rfl) (by kernel_rfl) (fun _ _ _ h => h) rfl (fun W1 hW1 => rfl) (KpS.refl _ _ _) ?_
          simp only [Act.put, List.setIfInBounds_toArray, List.set_cons_zero, List.set_cons_succ]
          refine held_takeW (i := 6) (v := .pointer (some ⟨q, 0, none⟩)) rfl (by kernel_rfl) (by kernel_rfl) (by kernel_rfl) (fun _ _ _ h => h) rfl (fun W1 hW1 => by go_simp) (KpS.refl _ _ _) ?_
          simp only [Act.put, List.setIfInBounds_toArray, List.set_cons_zero, List.set_cons_succ]
          refine held_takeW (i := 7) (v := .pointer (some ⟨q, 1, none⟩)) rfl (by kernel_rfl) (by kernel_rfl) (by kernel_rfl) (fun _ _ _ h => h) rfl (fun W1 hW1 => by go_simp) (KpS.refl _ _ _) ?_
          simp only [Act.put, List.setIfInBounds_toArray, List.set_cons_zero, List.set_cons_succ]
          refine held_takeW (i := 8) (v := .slice aR ms.length cR) rfl (by kernel_rfl) (by kernel_rfl) (by kernel_rfl) (fun _ _ _ h => h) rfl (fun W1 hW1 => exec_load _ _ _ _ rfl rfl (run_loadCell W1 _ _ _ (q1 W1 hW1) (agg_no _ (by kernel_rfl)))) (KpS.refl _ _ _) ?_
          simp only [Act.put, List.setIfInBounds_toArray, List.set_cons_zero, List.set_cons_succ]
          refine held_takeW (i := 9) (v := .int .i64 ms.length) rfl (by kernel_rfl) (by kernel_rfl) (by kernel_rfl) (fun _ _ _ h => h) rfl (fun W1 hW1 => by go_simp) (KpS.refl _ _ _) ?_
          simp only [Act.put, List.setIfInBounds_toArray, List.set_cons_zero, List.set_cons_succ]
          refine held_doW (i := 4) (by kernel_rfl) rfl rfl (wp_enter (f := 10) (args := #[.pointer (some ⟨p, 0, none⟩)]) (by go_simp) (bLenF (PC.out.b.later (Keeps.refl [] wC).drew)) ?_)
          rintro e _ ⟨rfl, rfl⟩
          refine ⟨_, rfl, KpS.refl _ _ _, ?_⟩
          simp only [Act.put, List.setIfInBounds_toArray, List.set_cons_zero, List.set_cons_succ]
          refine held_takeW (i := 10) (v := .bool false) rfl (by kernel_rfl) (by kernel_rfl) (by kernel_rfl) (fun _ _ _ h => h) rfl (fun W1 hW1 => by go_simp) (KpS.refl _ _ _) ?_
          simp only [Act.put, List.setIfInBounds_toArray, List.set_cons_zero, List.set_cons_succ]
          refine held_take (i := 11) (v := .bool false) rfl (by kernel_rfl) (by kernel_rfl) (by kernel_rfl) (fun _ _ _ h => h) rfl (fun W1 hW1 => by go_simp) (KpS.refl _ _ _) ?_
          simp only [Act.put, List.setIfInBounds_toArray, List.set_cons_zero, List.set_cons_succ]
          refine held_take (i := 12) (v := .bool false) rfl (by kernel_rfl) (by kernel_rfl) (by kernel_rfl) (fun _ _ _ h => h) rfl (fun W1 hW1 => rfl) (KpS.refl _ _ _) ?_
          simp only [Act.put, List.setIfInBounds_toArray, List.set_cons_zero, List.set_cons_succ]
          refine held_takeW (i := 13) (v := .pointer (some ⟨p, 0, none⟩)) rfl (by kernel_rfl) (by kernel_rfl) (by kernel_rfl) (fun _ _ _ h => h) rfl (fun W1 hW1 => rfl) (KpS.refl _ _ _) ?_
          simp only [Act.put, List.setIfInBounds_toArray, List.set_cons_zero, List.set_cons_succ]
          refine held_takeW (i := 16) (v := .pointer (some ⟨q, 0, none⟩)) rfl (by kernel_rfl) (by kernel_rfl) (by kernel_rfl) (fun _ _ _ h => h) rfl (fun W1 hW1 => rfl) (KpS.refl _ _ _) ?_
          simp only [Act.put, List.setIfInBounds_toArray, List.set_cons_zero, List.set_cons_succ]
          refine held_takeW (i := 17) (v := .pointer (some ⟨q, 0, none⟩)) rfl (by kernel_rfl) (by kernel_rfl) (by kernel_rfl) (fun _ _ _ h => h) rfl (fun W1 hW1 => by go_simp) (KpS.refl _ _ _) ?_
          simp only [Act.put, List.setIfInBounds_toArray, List.set_cons_zero, List.set_cons_succ]
          refine held_takeW (i := 18) (v := .pointer (some ⟨q, 1, none⟩)) rfl (by kernel_rfl) (by kernel_rfl) (by kernel_rfl) (fun _ _ _ h => h) rfl (fun W1 hW1 => by go_simp) (KpS.refl _ _ _) ?_
          simp only [Act.put, List.setIfInBounds_toArray, List.set_cons_zero, List.set_cons_succ]
          refine held_takeW (i := 19) (v := .slice aR ms.length cR) rfl (by kernel_rfl) (by kernel_rfl) (by kernel_rfl) (fun _ _ _ h => h) rfl (fun W1 hW1 => exec_load _ _ _ _ rfl rfl (run_loadCell W1 _ _ _ (q1 W1 hW1) (agg_no _ (by kernel_rfl)))) (KpS.refl _ _ _) ?_
          simp only [Act.put, List.setIfInBounds_toArray, List.set_cons_zero, List.set_cons_succ]
          refine held_doW (i := 14) (by kernel_rfl) rfl rfl (wp_enter (f := 19) (args := #[.pointer (some ⟨p, 0, none⟩)]) (by go_simp) (bAllF (PC.out.b.later (Keeps.refl [] wC).drew)) ?_)
          rintro e w3 ⟨a3, c3, g3, ms3, rfl, o3, hc3, hg3, k3⟩
          have l3 := con_len hc3
          have s3 : KpS [] wC.heap.size wC.drew w3 := (KpS.refl _ _ _).keeps k3 (Nat.le_refl _) (by simp)
          refine ⟨_, rfl, s3, ?_⟩
          simp only [Act.put, List.setIfInBounds_toArray, List.set_cons_zero, List.set_cons_succ]
          refine held_doW (i := 15) (by kernel_rfl) rfl rfl (wp_enter (f := 18) (args := #[.slice a3 ms.length c3]) (by go_simp) (bModel_any w3 [g3] o3.lt _ ms3 o3.at (by omega)) ?_)
          rintro e w4 ⟨a4, c4, rfl, o4, k4⟩
          have kw4 : Keeps [] wC w4 := ((Keeps.refl [] wC).drew.trans k3).trans k4
          have s4 : KpS [] wC.heap.size wC.drew w4 := s3.keeps k4 k3.size (by simp)
          refine ⟨_, rfl, s4, ?_⟩
          simp only [Act.put, List.setIfInBounds_toArray, List.set_cons_zero, List.set_cons_succ]
          refine held_doW (i := 20) (by kernel_rfl) rfl rfl (wp_enter (f := 17) (args := #[.slice a4 ms3.length c4, .slice aR ms.length cR]) (by go_simp) (rbSame_any w4 [g3] XR _ _ ms3 ns o4.at (ATR.out.keep kw4) (by omega) (hc3.trans CON.out)) ?_)
          rintro e _ ⟨rfl, n5, rfl⟩
          have s5 : KpS [] wC.heap.size wC.drew (w4.drewN n5) := s4.keeps ((Keeps.refl [] w4).drewN n5) (by have := s4.size; exact this) (by simp)
          refine ⟨_, rfl, s5, ?_⟩
          simp only [Act.put, List.setIfInBounds_toArray, List.set_cons_zero, List.set_cons_succ]
          refine held_takeW (i := 21) (v := .bool false) rfl (by kernel_rfl) (by kernel_rfl) (by kernel_rfl) (fun _ _ _ h => h) rfl (fun W1 hW1 => by go_simp) (s5) ?_
          simp only [Act.put, List.setIfInBounds_toArray, List.set_cons_zero, List.set_cons_succ]
          refine held_take (i := 22) (v := .bool false) rfl (by kernel_rfl) (by kernel_rfl) (by kernel_rfl) (fun _ _ _ h => h) rfl (fun W1 hW1 => by go_simp) (s5) ?_
          simp only [Act.put, List.setIfInBounds_toArray, List.set_cons_zero, List.set_cons_succ]
          refine wpAnyH_done (by kernel_rfl) ?_ _
          have PF := hid (PC.out.later (kw4.drewN n5))
          generalize w4.drewN n5 = w6 at PF ⊢
          clear q1 o3 hc3 hg3 k3 l3 s3 o4 k4 kw4 s4 s5 fewB
          go_wp2_with fail
          go_roundw
          case rel => exact ⟨k + 1, _, _, _, _, by omega, by go_num, PF.out, CON.out⟩
          case measure => simp [intOf]; omega
        · have PB := hid (PA.out.bag b1 kB fB)
          have BB := hid ((kB.block _ (lt_of_block BA.out) NX.out.1).trans BA.out)
          have HM1 := hid hm1
          clear kB b1 fB hm1
          obtain ⟨y0, y1, y2, y3, y4⟩ := row_block5 BB.out
          have ldM := hid (loadR (o := 2) y2 y3 y4)
          clear y0 y1 y2 y3 y4
          go_wp2_with (first | (refine wpList_is rfl _ _ (exec_load _ _ _ _ rfl rfl ldM.out) ?_) | fail)
          have RP := rbPutF PB.out.r ds[k].m _ (OK0.out _ PB.out.k)
          rw [mgV, HROW.out] at RP
          refine RP.mono ?_
          clear RP
          rintro e wC (⟨hf2, _⟩ | ⟨hf2, rfl, G1, m2, r2, hm2, kC, fC⟩)
          · have := con_len CON.out; omega
          have PC := hid (PB.out.ref r2 kC fC)
          have CON2 : Hid ((ms ++ [m1]).map con = (ns ++ [m2]).map con) := hid (by rw [List.map_append, List.map_append, CON.out]; simp [HM1.out, hm2])
          clear kC r2 fC hm2
          obtain ⟨XR, vR, hR, hGR⟩ := PC.out.r
          obtain ⟨aR, cR, hvR⟩ := hR.own.shape
          subst hvR
          have LN := con_len CON2.out
          have fewB := PC.out.b.few
          have ATR := hid hR.own.at
          have c1R := hR.c1
          have ltR := hR.lt
          rw [← LN] at ATR c1R
          have C1R := hid c1R
          have LTR := hid ltR
          have LNH := hid LN
          clear hR hGR c1R ltR LN
          go_wp2_with fail
          refine wp_region_any (by kernel_rfl) (wpAny_of_held (S := KpS [] wC.heap.size wC.drew) _ _ _ _ ?_)
          change wpAnyH _ _ _ _ _ _ _ _ wC.drew
          have q1 : ∀ W1, KpS [] wC.heap.size wC.drew W1 → W1.cell? ⟨q, 1, none⟩ = some (.slice aR (ms ++ [m1]).length cR) := fun W1 h => h.cell (by rw [World.cell?_drew]; exact C1R.out) LTR.out (by simp)
          refine held_take (i := 0) (v := .bool true) rfl (by kernel_rfl) (by kernel_rfl) (by kernel_rfl) (fun _ _ _ h => h) rfl (fun W1 hW1 => rfl) (KpS.refl _ _ _) ?_
          simp only [Act.put, List.setIfInBounds_toArray, List.set_cons_zero, List.set_cons_succ]
          refine held_take (i := 1) (v := .bool false) rfl (by kernel_rfl) (by kernel_rfl) (by kernel_rfl) (fun _ _ _ h => h) rfl (fun W1 hW1 => by go_simp) (KpS.refl _ _ _) ?_
          simp only [Act.put, List.setIfInBounds_toArray, List.set_cons_zero, List.set_cons_succ]
          refine held_take (i := 2) (v := .bool false) rfl (by kernel_rfl) (by kernel_rfl) (by kernel_rfl) (fun _ _ _ h => h) rfl (fun W1 hW1 => rfl) (KpS.refl _ _ _) ?_
          simp only [Act.put, List.setIfInBounds_toArray, List.set_cons_zero, List.set_cons_succ]
          refine held_takeW (i := 3) (v := .pointer (some ⟨p, 0, none⟩)) rfl (by kernel_rfl) (by kernel_rfl) (by kernel_rfl) (fun _ _ _ h => h) rfl (fun W1 hW1 => rfl) (KpS.refl _ _ _) ?_
          simp only [Act.put, List.setIfInBounds_toArray, List.set_cons_zero, List.set_cons_succ]
          refine held_takeW (i := 5) (v := .pointer (some ⟨q, 0, none⟩)) rfl (by kernel_rfl) (by kernel_rfl) (by kernel_rfl) (fun _ _ _ h => h) rfl (fun W1 hW1 => rfl) (KpS.refl _ _ _) ?_
          simp only [Act.put, List.setIfInBounds_toArray, List.set_cons_zero, List.set_cons_succ]
          refine held_takeW (i := 6) (v := .pointer (some ⟨q, 0, none⟩)) rfl (by kernel_rfl) (by kernel_rfl) (by kernel_rfl) (fun _ _ _ h => h) rfl (fun W1 hW1 => by go_simp) (KpS.refl _ _ _) ?_
          simp only [Act.put, List.setIfInBounds_toArray, List.set_cons_zero, List.set_cons_succ]
          refine held_takeW (i := 7) (v := .pointer (some ⟨q, 1, none⟩)) rfl (by kernel_rfl) (by kernel_rfl) (by kernel_rfl) (fun _ _ _ h => h) rfl (fun W1 hW1 => by go_simp) (KpS.refl _ _ _) ?_
          simp only [Act.put, List.setIfInBounds_toArray, List.set_cons_zero, List.set_cons_succ]
          refine held_takeW (i := 8) (v := .slice aR (ms ++ [m1]).length cR) rfl (by kernel_rfl) (by kernel_rfl) (by kernel_rfl) (fun _ _ _ h => h) rfl (fun W1 hW1 => exec_load _ _ _ _ rfl rfl (run_loadCell W1 _ _ _ (q1 W1 hW1) (agg_no _ (by kernel_rfl)))) (KpS.refl _ _ _) ?_
          simp only [Act.put, List.setIfInBounds_toArray, List.set_cons_zero, List.set_cons_succ]
          refine held_takeW (i := 9) (v := .int .i64 (ms ++ [m1]).length) rfl (by kernel_rfl) (by kernel_rfl) (by kernel_rfl) (fun _ _ _ h => h) rfl (fun W1 hW1 => by go_simp) (KpS.refl _ _ _) ?_
          simp only [Act.put, List.setIfInBounds_toArray, List.set_cons_zero, List.set_cons_succ]
          refine held_doW (i := 4) (by kernel_rfl) rfl rfl (wp_enter (f := 10) (args := #[.pointer (some ⟨p, 0, none⟩)]) (by go_simp) (bLenF (PC.out.b.later (Keeps.refl [] wC).drew)) ?_)
          rintro e _ ⟨rfl, rfl⟩
          refine ⟨_, rfl, KpS.refl _ _ _, ?_⟩
          simp only [Act.put, List.setIfInBounds_toArray, List.set_cons_zero, List.set_cons_succ]
          refine held_takeW (i := 10) (v := .bool false) rfl (by kernel_rfl) (by kernel_rfl) (by kernel_rfl) (fun _ _ _ h => h) rfl (fun W1 hW1 => by go_simp) (KpS.refl _ _ _) ?_
          simp only [Act.put, List.setIfInBounds_toArray, List.set_cons_zero, List.set_cons_succ]
          refine held_take (i := 11) (v := .bool false) rfl (by kernel_rfl) (by kernel_rfl) (by kernel_rfl) (fun _ _ _ h => h) rfl (fun W1 hW1 => by go_simp) (KpS.refl _ _ _) ?_
          simp only [Act.put, List.setIfInBounds_toArray, List.set_cons_zero, List.set_cons_succ]
          refine held_take (i := 12) (v := .bool false) rfl (by kernel_rfl) (by kernel_rfl) (by kernel_rfl) (fun _ _ _ h => h) rfl (fun W1 hW1 => rfl) (KpS.refl _ _ _) ?_
          simp only [Act.put, List.setIfInBounds_toArray, List.set_cons_zero, List.set_cons_succ]
          refine held_takeW (i := 13) (v := .pointer (some ⟨p, 0, none⟩)) rfl (by kernel_rfl) (by kernel_rfl) (by kernel_rfl) (fun _ _ _ h => h) rfl (fun W1 hW1 => rfl) (KpS.refl _ _ _) ?_
          simp only [Act.put, List.setIfInBounds_toArray, List.set_cons_zero, List.set_cons_succ]
          refine held_takeW (i := 16) (v := .pointer (some ⟨q, 0, none⟩)) rfl (by kernel_rfl) (by kernel_rfl) (by kernel_rfl) (fun _ _ _ h => h) rfl (fun W1 hW1 => rfl) (KpS.refl _ _ _) ?_
          simp only [Act.put, List.setIfInBounds_toArray, List.set_cons_zero, List.set_cons_succ]
          refine held_takeW (i := 17) (v := .pointer (some ⟨q, 0, none⟩)) rfl (by kernel_rfl) (by kernel_rfl) (by kernel_rfl) (fun _ _ _ h => h) rfl (fun W1 hW1 => by go_simp) (KpS.refl _ _ _) ?_
          simp only [Act.put, List.setIfInBounds_toArray, List.set_cons_zero, List.set_cons_succ]
          refine held_takeW (i := 18) (v := .pointer (some ⟨q, 1, none⟩)) rfl (by kernel_rfl) (by kernel_rfl) (by kernel_rfl) (fun _ _ _ h => h) rfl (fun W1 hW1 => by go_simp) (KpS.refl _ _ _) ?_
          simp only [Act.put, List.setIfInBounds_toArray, List.set_cons_zero, List.set_cons_succ]
          refine held_takeW (i := 19) (v := .slice aR (ms ++ [m1]).length cR) rfl (by kernel_rfl) (by kernel_rfl) (by kernel_rfl) (fun _ _ _ h => h) rfl (fun W1 hW1 => exec_load _ _ _ _ rfl rfl (run_loadCell W1 _ _ _ (q1 W1 hW1) (agg_no _ (by kernel_rfl)))) (KpS.refl _ _ _) ?_
          simp only [Act.put, List.setIfInBounds_toArray, List.set_cons_zero, List.set_cons_succ]
          refine held_doW (i := 14) (by kernel_rfl) rfl rfl (wp_enter (f := 19) (args := #[.pointer (some ⟨p, 0, none⟩)]) (by go_simp) (bAllF (PC.out.b.later (Keeps.refl [] wC).drew)) ?_)
          rintro e w3 ⟨a3, c3, g3, ms3, rfl, o3, hc3, hg3, k3⟩
          have l3 := con_len hc3
          have s3 : KpS [] wC.heap.size wC.drew w3 := (KpS.refl _ _ _).keeps k3 (Nat.le_refl _) (by simp)
          refine ⟨_, rfl, s3, ?_⟩
          simp only [Act.put, List.setIfInBounds_toArray, List.set_cons_zero, List.set_cons_succ]
          refine held_doW (i := 15) (by kernel_rfl) rfl rfl (wp_enter (f := 18) (args := #[.slice a3 (ms ++ [m1]).length c3]) (by go_simp) (bModel_any w3 [g3] o3.lt _ ms3 o3.at (by omega)) ?_)
          rintro e w4 ⟨a4, c4, rfl, o4, k4⟩
          have kw4 : Keeps [] wC w4 := ((Keeps.refl [] wC).drew.trans k3).trans k4
          have s4 : KpS [] wC.heap.size wC.drew w4 := s3.keeps k4 k3.size (by simp)
          refine ⟨_, rfl, s4, ?_⟩
          simp only [Act.put, List.setIfInBounds_toArray, List.set_cons_zero, List.set_cons_succ]
          refine held_doW (i := 20) (by kernel_rfl) rfl rfl (wp_enter (f := 17) (args := #[.slice a4 ms3.length c4, .slice aR (ms ++ [m1]).length cR]) (by go_simp) (rbSame_any w4 [g3] XR _ _ ms3 (ns ++ [m2]) o4.at (ATR.out.keep kw4) (by omega) (hc3.trans CON2.out)) ?_)
          rintro e _ ⟨rfl, n5, rfl⟩
          have s5 : KpS [] wC.heap.size wC.drew (w4.drewN n5) := s4.keeps ((Keeps.refl [] w4).drewN n5) (by have := s4.size; exact this) (by simp)
          refine ⟨_, rfl, s5, ?_⟩
          simp only [Act.put, List.setIfInBounds_toArray, List.set_cons_zero, List.set_cons_succ]
          refine held_takeW (i := 21) (v := .bool false) rfl (by kernel_rfl) (by kernel_rfl) (by kernel_rfl) (fun _ _ _ h => h) rfl (fun W1 hW1 => by go_simp) (s5) ?_
          simp only [Act.put, List.setIfInBounds_toArray, List.set_cons_zero, List.set_cons_succ]
          refine held_take (i := 22) (v := .bool false) rfl (by kernel_rfl) (by kernel_rfl) (by kernel_rfl) (fun _ _ _ h => h) rfl (fun W1 hW1 => by go_simp) (s5) ?_
          simp only [Act.put, List.setIfInBounds_toArray, List.set_cons_zero, List.set_cons_succ]
          refine wpAnyH_done (by kernel_rfl) ?_ _
          have PF := hid (PC.out.later (kw4.drewN n5))
          generalize w4.drewN n5 = w6 at PF ⊢
          clear q1 o3 hc3 hg3 k3 l3 s3 o4 k4 kw4 s4 s5 fewB
          go_wp2_with fail
          go_roundw
          case rel => exact ⟨k + 1, _, _, _, _, by omega, by go_num, PF.out, CON2.out⟩
          case measure => simp [intOf]; omega
      · by_cases hT : ds[k].act ≤ 4
        · go_wp2_with (first | (refine wpList_is rfl _ _ (exec_load _ _ _ _ rfl rfl ld.out) ?_) | fail)
          have ka := (Keeps.refl [] wr).alloc (.cells #[.int .i64 ds[k].act, .int .i64 ds[k].n, .int .i64 ds[k].m.f, .int .i64 ds[k].m.t, .slice ra ds[k].m.bs.length rc] 40)
          have ba := heap_alloc_new wr (.cells #[.int .i64 ds[k].act, .int .i64 ds[k].n, .int .i64 ds[k].m.f, .int .i64 ds[k].m.t, .slice ra ds[k].m.bs.length rc] 40)
          have PA := hid (P.out.later ka)
          have BA := hid ba
          have NX := hid (P.out.apart (Nat.le_refl _))
          obtain ⟨x, hx⟩ : ∃ x, x = wr.heap.size := ⟨_, rfl⟩
          rw [← hx] at BA NX ⊢
          generalize wr.alloc (.cells #[.int .i64 ds[k].act, .int .i64 ds[k].n, .int .i64 ds[k].m.f, .int .i64 ds[k].m.t, .slice ra ds[k].m.bs.length rc] 40) = wA at ka BA PA ⊢
          clear ka ba hx
          have TP := bTakeF PA.out.b ds[k].n A1.out
          refine TP.mono ?_
          clear TP
          rintro e wB (⟨hm0, rfl, kB⟩ | ⟨i, hi, hmi, m1, Y, rfl, hm1, okY, fY, lY, F1, b1, kB, fB⟩)
          · have PB := hid (PA.out.later kB)
            have BB := hid ((kB.block _ (lt_of_block BA.out) (by simp)).trans BA.out)
            have kx := (Keeps.refl [] wB).alloc (.cells #[.int .i64 0, .int .i64 0, .slice none 0 0] 30)
            have BX := hid (heap_alloc_new wB (.cells #[.int .i64 0, .int .i64 0, .slice none 0 0] 30))
            have PX := hid (PB.out.later kx)
            have NZ := hid (PB.out.apart (Nat.le_refl _))
            obtain ⟨y0, y1, y2, y3, y4⟩ := row_block5 ((kx.block _ (lt_of_block BB.out) (by simp)).trans BB.out)
            have Y1 := hid y1
            clear kB kx y0 y1 y2 y3 y4
            go_wp2_with (first | (refine wpList_is rfl _ _ (exec_load _ _ _ _ rfl rfl (run_loadCell _ _ _ _ Y1.out (agg_no _ (by kernel_rfl)))) ?_) | fail)
            obtain ⟨bx, hbx⟩ : ∃ z, z = wB.heap.size := ⟨_, rfl⟩
            rw [← hbx] at BX NZ ⊢
            generalize wB.alloc (.cells #[.int .i64 0, .int .i64 0, .slice none 0 0] 30) = wX at BX PX Y1 ⊢
            have RP := rbTakeF PX.out.r ds[k].n A1.out
            refine RP.mono ?_
            clear RP hbx
            rintro e wC (⟨_, rfl, kC⟩ | ⟨i2, hi2, _⟩)
            rotate_left
            · have := con_len CON.out; rw [hm0] at this; simp at this; omega
            have PC := hid (PX.out.later kC)
            have BX2 := hid ((kC.block _ (lt_of_block BX.out) (by simp)).trans BX.out)
            clear kC
            go_upto_region 26 with (fail)
            have ky := (Keeps.refl [] wC).alloc (.cells #[.int .i64 0, .int .i64 0, .slice none 0 0] 38)
            have BY := hid (heap_alloc_new wC (.cells #[.int .i64 0, .int .i64 0, .slice none 0 0] 38))
            have PY := hid (PC.out.later ky)
            have BX3 := hid ((ky.block _ (lt_of_block BX2.out) (by simp)).trans BX2.out)
            obtain ⟨by_, hby⟩ : ∃ z, z = wC.heap.size := ⟨_, rfl⟩
            rw [← hby] at BY ⊢
            generalize wC.alloc (.cells #[.int .i64 0, .int .i64 0, .slice none 0 0] 38) = wY at ky BY PY BX3 ⊢
            obtain ⟨u0, u1, u2, -⟩ := row_block3 BX3.out
            obtain ⟨v0, v1, v2, -⟩ := row_block3 BY.out
            clear ky hby
            go_wp2_with fail
            refine (same_any wY _ _ [] [] (RowAt.nil _) (RowAt.nil _) (by simp) (by simp)).mono ?_
            rintro e _ ⟨rfl, n6, rfl⟩
            have PZ := hid (PY.out.later ((Keeps.refl [] wY).drewN n6))
            generalize wY.drewN n6 = wZ at PZ ⊢
            clear u0 u1 u2 v0 v1 v2
            simp only [decide_true]
            obtain ⟨XR, vR, hR, hGR⟩ := PZ.out.r
            obtain ⟨aR, cR, hvR⟩ := hR.own.shape
            subst hvR
            have LN := con_len CON.out
            have fewB := PZ.out.b.few
            have ATR := hid hR.own.at
            have c1R := hR.c1
            have ltR := hR.lt
            rw [← LN] at ATR c1R
            have C1R := hid c1R
            have LTR := hid ltR
            have LNH := hid LN
            clear hR hGR c1R ltR LN
            go_wp2_with fail
            refine wp_region_any (by kernel_rfl) (wpAny_of_held (S := KpS [] wZ.heap.size wZ.drew) _ _ _ _ ?_)
            change wpAnyH _ _ _ _ _ _ _ _ wZ.drew
            have q1 : ∀ W1, KpS [] wZ.heap.size wZ.drew W1 → W1.cell? ⟨q, 1, none⟩ = some (.slice aR ms.length cR) := fun W1 h => h.cell (by rw [World.cell?_drew]; exact C1R.out) LTR.out (by simp)
            refine held_take (i := 0) (v := .bool true) rfl (by kernel_rfl) (by kernel_rfl) (by kernel_rfl) (fun _ _ _ h => h) rfl (fun W1 hW1 => rfl) (KpS.refl _ _ _) ?_
            simp only [Act.put, List.setIfInBounds_toArray, List.set_cons_zero, List.set_cons_succ]
            refine held_take (i := 1) (v := .bool false) rfl (by kernel_rfl) (by kernel_rfl) (by kernel_rfl) (fun _ _ _ h => h) rfl (fun W1 hW1 => by go_simp) (KpS.refl _ _ _) ?_
            simp only [Act.put, List.setIfInBounds_toArray, List.set_cons_zero, List.set_cons_succ]
            refine held_take (i := 2) (v := .bool false) rfl (by kernel_rfl) (by kernel_rfl) (by kernel_rfl) (fun _ _ _ h => h) rfl (fun W1 hW1 => rfl) (KpS.refl _ _ _) ?_
            simp only [Act.put, List.setIfInBounds_toArray, List.set_cons_zero, List.set_cons_succ]
            refine held_takeW (i := 3) (v := .pointer (some ⟨p, 0, none⟩)) rfl (by kernel_rfl) (by kernel_rfl) (by kernel_rfl) (fun _ _ _ h => h) rfl (fun W1 hW1 => rfl) (KpS.refl _ _ _) ?_
            simp only [Act.put, List.setIfInBounds_toArray, List.set_cons_zero, List.set_cons_succ]
            refine held_takeW (i := 5) (v := .pointer (some ⟨q, 0, none⟩)) rfl (by kernel_rfl) (by kernel_rfl) (by kernel_rfl) (fun _ _ _ h => h) rfl (fun W1 hW1 => rfl) (KpS.refl _ _ _) ?_
            simp only [Act.put, List.setIfInBounds_toArray, List.set_cons_zero, List.set_cons_succ]
            refine held_takeW (i := 6) (v := .pointer (some ⟨q, 0, none⟩)) rfl (by kernel_rfl) (by kernel_rfl) (by kernel_rfl) (fun _ _ _ h => h) rfl (fun W1 hW1 => by go_simp) (KpS.refl _ _ _) ?_
            simp only [Act.put, List.setIfInBounds_toArray, List.set_cons_zero, List.set_cons_succ]
            refine held_takeW (i := 7) (v := .pointer (some ⟨q, 1, none⟩)) rfl (by kernel_rfl) (by kernel_rfl) (by kernel_rfl) (fun _ _ _ h => h) rfl (fun W1 hW1 => by go_simp) (KpS.refl _ _ _) ?_
            simp only [Act.put, List.setIfInBounds_toArray, List.set_cons_zero, List.set_cons_succ]
            refine held_takeW (i := 8) (v := .slice aR ms.length cR) rfl (by kernel_rfl) (by kernel_rfl) (by kernel_rfl) (fun _ _ _ h => h) rfl (fun W1 hW1 => exec_load _ _ _ _ rfl rfl (run_loadCell W1 _ _ _ (q1 W1 hW1) (agg_no _ (by kernel_rfl)))) (KpS.refl _ _ _) ?_
            simp only [Act.put, List.setIfInBounds_toArray, List.set_cons_zero, List.set_cons_succ]
            refine held_takeW (i := 9) (v := .int .i64 ms.length) rfl (by kernel_rfl) (by kernel_rfl) (by kernel_rfl) (fun _ _ _ h => h) rfl (fun W1 hW1 => by go_simp) (KpS.refl _ _ _) ?_
            simp only [Act.put, List.setIfInBounds_toArray, List.set_cons_zero, List.set_cons_succ]
            refine held_doW (i := 4) (by kernel_rfl) rfl rfl (wp_enter (f := 10) (args := #[.pointer (some ⟨p, 0, none⟩)]) (by go_simp) (bLenF (PZ.out.b.later (Keeps.refl [] wZ).drew)) ?_)
            rintro e _ ⟨rfl, rfl⟩
            refine ⟨_, rfl, KpS.refl _ _ _, ?_⟩
            simp only [Act.put, List.setIfInBounds_toArray, List.set_cons_zero, List.set_cons_succ]
            refine held_takeW (i := 10) (v := .bool false) rfl (by kernel_rfl) (by kernel_rfl) (by kernel_rfl) (fun _ _ _ h => h) rfl (fun W1 hW1 => by go_simp) (KpS.refl _ _ _) ?_
            simp only [Act.put, List.setIfInBounds_toArray, List.set_cons_zero, List.set_cons_succ]
            refine held_take (i := 11) (v := .bool false) rfl (by kernel_rfl) (by kernel_rfl) (by kernel_rfl) (fun _ _ _ h => h) rfl (fun W1 hW1 => by go_simp) (KpS.refl _ _ _) ?_
            simp only [Act.put, List.setIfInBounds_toArray, List.set_cons_zero, List.set_cons_succ]
            refine held_take (i := 12) (v := .bool false) rfl (by kernel_rfl) (by kernel_rfl) (by kernel_rfl) (fun _ _ _ h => h) rfl (fun W1 hW1 => rfl) (KpS.refl _ _ _) ?_
            simp only [Act.put, List.setIfInBounds_toArray, List.set_cons_zero, List.set_cons_succ]
            refine held_takeW (i := 13) (v := .pointer (some ⟨p, 0, none⟩)) rfl (by kernel_rfl) (by kernel_rfl) (by kernel_rfl) (fun _ _ _ h => h) rfl (fun W1 hW1 => rfl) (KpS.refl _ _ _) ?_
            simp only [Act.put, List.setIfInBounds_toArray, List.set_cons_zero, List.set_cons_succ]
            refine held_takeW (i := 16) (v := .pointer (some ⟨q, 0, none⟩)) rfl (by kernel_rfl) (by kernel_rfl) (by kernel_rfl) (fun _ _ _ h => h) rfl (fun W1 hW1 => rfl) (KpS.refl _ _ _) ?_
            simp only [Act.put, List.setIfInBounds_toArray, List.set_cons_zero, List.set_cons_succ]
            refine held_takeW (i := 17) (v := .pointer (some ⟨q, 0, none⟩)) rfl (by kernel_rfl) (by kernel_rfl) (by kernel_rfl) (fun _ _ _ h => h) rfl (fun W1 hW1 => by go_simp) (KpS.refl _ _ _) ?_
            simp only [Act.put, List.setIfInBounds_toArray, List.set_cons_zero, List.set_cons_succ]
            refine held_takeW (i := 18) (v := .pointer (some ⟨q, 1, none⟩)) rfl (by kernel_rfl) (by kernel_rfl) (by kernel_rfl) (fun _ _ _ h => h) rfl (fun W1 hW1 => by go_simp) (KpS.refl _ _ _) ?_
            simp only [Act.put, List.setIfInBounds_toArray, List.set_cons_zero, List.set_cons_succ]
            refine held_takeW (i := 19) (v := .slice aR ms.length cR) rfl (by kernel_rfl) (by kernel_rfl) (by kernel_rfl) (fun _ _ _ h => h) rfl (fun W1 hW1 => exec_load _ _ _ _ rfl rfl (run_loadCell W1 _ _ _ (q1 W1 hW1) (agg_no _ (by kernel_rfl)))) (KpS.refl _ _ _) ?_
            simp only [Act.put, List.setIfInBounds_toArray, List.set_cons_zero, List.set_cons_succ]
            refine held_doW (i := 14) (by kernel_rfl) rfl rfl (wp_enter (f := 19) (args := #[.pointer (some ⟨p, 0, none⟩)]) (by go_simp) (bAllF (PZ.out.b.later (Keeps.refl [] wZ).drew)) ?_)
            rintro e w3 ⟨a3, c3, g3, ms3, rfl, o3, hc3, hg3, k3⟩
            have l3 := con_len hc3
            have s3 : KpS [] wZ.heap.size wZ.drew w3 := (KpS.refl _ _ _).keeps k3 (Nat.le_refl _) (by simp)
            refine ⟨_, rfl, s3, ?_⟩
            simp only [Act.put, List.setIfInBounds_toArray, List.set_cons_zero, List.set_cons_succ]
            refine held_doW (i := 15) (by kernel_rfl) rfl rfl (wp_enter (f := 18) (args := #[.slice a3 ms.length c3]) (by go_simp) (bModel_any w3 [g3] o3.lt _ ms3 o3.at (by omega)) ?_)
            rintro e w4 ⟨a4, c4, rfl, o4, k4⟩
            have kw4 : Keeps [] wZ w4 := ((Keeps.refl [] wZ).drew.trans k3).trans k4
            have s4 : KpS [] wZ.heap.size wZ.drew w4 := s3.keeps k4 k3.size (by simp)
            refine ⟨_, rfl, s4, ?_⟩
            simp only [Act.put, List.setIfInBounds_toArray, List.set_cons_zero, List.set_cons_succ]
            refine held_doW (i := 20) (by kernel_rfl) rfl rfl (wp_enter (f := 17) (args := #[.slice a4 ms3.length c4, .slice aR ms.length cR]) (by go_simp) (rbSame_any w4 [g3] XR _ _ ms3 ns o4.at (ATR.out.keep kw4) (by omega) (hc3.trans CON.out)) ?_)
            rintro e _ ⟨rfl, n5, rfl⟩
            have s5 : KpS [] wZ.heap.size wZ.drew (w4.drewN n5) := s4.keeps ((Keeps.refl [] w4).drewN n5) (by have := s4.size; exact this) (by simp)
            refine ⟨_, rfl, s5, ?_⟩
            simp only [Act.put, List.setIfInBounds_toArray, List.set_cons_zero, List.set_cons_succ]
            refine held_takeW (i := 21) (v := .bool false) rfl (by kernel_rfl) (by kernel_rfl) (by kernel_rfl) (fun _ _ _ h => h) rfl (fun W1 hW1 => by go_simp) (s5) ?_
            simp only [Act.put, List.setIfInBounds_toArray, List.set_cons_zero, List.set_cons_succ]
            refine held_take (i := 22) (v := .bool false) rfl (by kernel_rfl) (by kernel_rfl) (by kernel_rfl) (fun _ _ _ h => h) rfl (fun W1 hW1 => by go_simp) (s5) ?_
            simp only [Act.put, List.setIfInBounds_toArray, List.set_cons_zero, List.set_cons_succ]
            refine wpAnyH_done (by kernel_rfl) ?_ _
            have PF := hid (PZ.out.later (kw4.drewN n5))
            generalize w4.drewN n5 = w6 at PF ⊢
            clear q1 o3 hc3 hg3 k3 l3 s3 o4 k4 kw4 s4 s5 fewB
            go_wp2_with fail
            go_roundw
            case rel => exact ⟨k + 1, _, _, _, _, by omega, by go_num, PF.out, CON.out⟩
            case measure => simp [intOf]; omega
          · have PB := hid (PA.out.bag b1 kB fB)
            have BB := hid ((kB.block _ (lt_of_block BA.out) NX.out.1).trans BA.out)
            have hYG : Hid (∀ b ∈ Y, b ∉ G) := hid (fun b hb hg => by
              rcases fY b hb with hf | hf
              · exact PA.out.dj b hf hg
              · have := PA.out.r.lt b hg; omega)
            obtain ⟨f1, t1, row1, bs1⟩ := m1
            obtain ⟨rx, cx, hrx, -⟩ := okY.row
            simp only at hrx
            subst hrx
            simp only [mgV]
            have HM1 := hid hm1
            have kx := (Keeps.refl [] wB).alloc (.cells #[.int .i64 f1, .int .i64 t1, .slice rx bs1.length cx] 30)
            have BX := hid (heap_alloc_new wB (.cells #[.int .i64 f1, .int .i64 t1, .slice rx bs1.length cx] 30))
            have PX := hid (PB.out.later kx)
            have NZ := hid (PB.out.apart (Nat.le_refl _))
            have OKY := hid (okY.keep kx (by simp))
            obtain ⟨y0, y1, y2, y3, y4⟩ := row_block5 ((kx.block _ (lt_of_block BB.out) (by simp)).trans BB.out)
            have Y1 := hid y1
            have HMI := hid hmi
            clear kB kx y0 y1 y2 y3 y4 fB b1 hm1 okY fY lY hmi
            go_wp2_with (first | (refine wpList_is rfl _ _ (exec_load _ _ _ _ rfl rfl (run_loadCell _ _ _ _ Y1.out (agg_no _ (by kernel_rfl)))) ?_) | fail)
            obtain ⟨bx, hbx⟩ : ∃ z, z = wB.heap.size := ⟨_, rfl⟩
            rw [← hbx] at BX NZ ⊢
            generalize wB.alloc (.cells #[.int .i64 f1, .int .i64 t1, .slice rx bs1.length cx] 30) = wX at BX PX Y1 OKY ⊢
            have RP := rbTakeF PX.out.r ds[k].n A1.out
            refine RP.mono ?_
            clear RP hbx
            have LN0 := con_len CON.out
            rintro e wC (⟨hn0, _⟩ | ⟨j, hj, hmj, m2, Z, rfl, hm2, okZ, fZ, lZ, G1, r2, kC, fC⟩)
            · have h0 : ms.length = 0 := by rw [LN0, hn0]; rfl
              omega
            obtain rfl : i = j := by have h := HMI.out; rw [← LN0] at hmj; omega
            have hcc := con_at CON.out i hi hj
            obtain ⟨row2, rfl⟩ : ∃ row2, m2 = ⟨f1, t1, row2, bs1⟩ := mg_is (by rw [hm2, ← hcc, ← HM1.out]; rfl)
            obtain ⟨ry, cy, hry, -⟩ := okZ.row
            simp only at hry
            subst hry
            simp only [mgV]
            have PC := hid (PX.out.ref r2 kC fC)
            have BX2 := hid ((kC.block _ (lt_of_block BX.out) NZ.out.2).trans BX.out)
            have OKY2 := hid (OKY.out.keep kC hYG.out)
            have OKZ := hid okZ
            have CON2 : Hid ((ms.take i ++ ms.drop (i + 1)).map con = (ns.take i ++ ns.drop (i + 1)).map con) := hid (by rw [List.map_append, List.map_append, List.map_take, List.map_drop, List.map_take, List.map_drop, CON.out])
            clear kC r2 fC hm2 okZ fZ lZ hcc hmj LN0
            go_upto_region 26 with (fail)
            have ky := (Keeps.refl [] wC).alloc (.cells #[.int .i64 f1, .int .i64 t1, .slice ry bs1.length cy] 38)
            have BY := hid (heap_alloc_new wC (.cells #[.int .i64 f1, .int .i64 t1, .slice ry bs1.length cy] 38))
            have PY := hid (PC.out.later ky)
            have BX3 := hid ((ky.block _ (lt_of_block BX2.out) (by simp)).trans BX2.out)
            have OKY3 := hid (OKY2.out.keep ky (by simp))
            have OKZ3 := hid (OKZ.out.keep ky (by simp))
            obtain ⟨by_, hby⟩ : ∃ z, z = wC.heap.size := ⟨_, rfl⟩
            rw [← hby] at BY ⊢
            generalize wC.alloc (.cells #[.int .i64 f1, .int .i64 t1, .slice ry bs1.length cy] 38) = wY at ky BY PY BX3 OKY3 OKZ3 ⊢
            obtain ⟨u0, u1, u2, -⟩ := row_block3 BX3.out
            obtain ⟨v0, v1, v2, -⟩ := row_block3 BY.out
            have fitY := OKY3.out.fit
            simp only at fitY
            clear ky hby
            go_wp2_with fail
            refine (same_any wY _ _ bs1 bs1 OKY3.out.row OKZ3.out.row (by omega) (by omega)).mono ?_
            rintro e _ ⟨rfl, n6, rfl⟩
            have PZ := hid (PY.out.later ((Keeps.refl [] wY).drewN n6))
            generalize wY.drewN n6 = wZ at PZ ⊢
            clear u0 u1 u2 v0 v1 v2
            simp only [decide_true]
            obtain ⟨XR, vR, hR, hGR⟩ := PZ.out.r
            obtain ⟨aR, cR, hvR⟩ := hR.own.shape
            subst hvR
            have LN := con_len CON2.out
            have fewB := PZ.out.b.few
            have ATR := hid hR.own.at
            have c1R := hR.c1
            have ltR := hR.lt
            rw [← LN] at ATR c1R
            have C1R := hid c1R
            have LTR := hid ltR
            have LNH := hid LN
            clear hR hGR c1R ltR LN
            go_wp2_with fail
            refine wp_region_any (by kernel_rfl) (wpAny_of_held (S := KpS [] wZ.heap.size wZ.drew) _ _ _ _ ?_)
            change wpAnyH _ _ _ _ _ _ _ _ wZ.drew
            have q1 : ∀ W1, KpS [] wZ.heap.size wZ.drew W1 → W1.cell? ⟨q, 1, none⟩ = some (.slice aR (ms.take i ++ ms.drop (i + 1)).length cR) := fun W1 h => h.cell (by rw [World.cell?_drew]; exact C1R.out) LTR.out (by simp)
            refine held_take (i := 0) (v := .bool true) rfl (by kernel_rfl) (by kernel_rfl) (by kernel_rfl) (fun _ _ _ h => h) rfl (fun W1 hW1 => rfl) (KpS.refl _ _ _) ?_
            simp only [Act.put, List.setIfInBounds_toArray, List.set_cons_zero, List.set_cons_succ]
            refine held_take (i := 1) (v := .bool false) rfl (by kernel_rfl) (by kernel_rfl) (by kernel_rfl) (fun _ _ _ h => h) rfl (fun W1 hW1 => by go_simp) (KpS.refl _ _ _) ?_
            simp only [Act.put, List.setIfInBounds_toArray, List.set_cons_zero, List.set_cons_succ]
            refine held_take (i := 2) (v := .bool false) rfl (by kernel_rfl) (by kernel_rfl) (by kernel_rfl) (fun _ _ _ h => h) rfl (fun W1 hW1 => rfl) (KpS.refl _ _ _) ?_
            simp only [Act.put, List.setIfInBounds_toArray, List.set_cons_zero, List.set_cons_succ]
            refine held_takeW (i := 3) (v := .pointer (some ⟨p, 0, none⟩)) rfl (by kernel_rfl) (by kernel_rfl) (by kernel_rfl) (fun _ _ _ h => h) rfl (fun W1 hW1 => rfl) (KpS.refl _ _ _) ?_
            simp only [Act.put, List.setIfInBounds_toArray, List.set_cons_zero, List.set_cons_succ]
            refine held_takeW (i := 5) (v := .pointer (some ⟨q, 0, none⟩)) rfl (by kernel_rfl) (by kernel_rfl) (by kernel_rfl) (fun _ _ _ h => h) rfl (fun W1 hW1 => rfl) (KpS.refl _ _ _) ?_
            simp only [Act.put, List.setIfInBounds_toArray, List.set_cons_zero, List.set_cons_succ]
            refine held_takeW (i := 6) (v := .pointer (some ⟨q, 0, none⟩)) rfl (by kernel_rfl) (by kernel_rfl) (by kernel_rfl) (fun _ _ _ h => h) rfl (fun W1 hW1 => by go_simp) (KpS.refl _ _ _) ?_
            simp only [Act.put, List.setIfInBounds_toArray, List.set_cons_zero, List.set_cons_succ]
            refine held_takeW (i := 7) (v := .pointer (some ⟨q, 1, none⟩)) rfl (by kernel_rfl) (by kernel_rfl) (by kernel_rfl) (fun _ _ _ h => h) rfl (fun W1 hW1 => by go_simp) (KpS.refl _ _ _) ?_
            simp only [Act.put, List.setIfInBounds_toArray, List.set_cons_zero, List.set_cons_succ]
            refine held_takeW (i := 8) (v := .slice aR (ms.take i ++ ms.drop (i + 1)).length cR) rfl (by kernel_rfl) (by kernel_rfl) (by kernel_rfl) (fun _ _ _ h => h) rfl (fun W1 hW1 => exec_load _ _ _ _ rfl rfl (run_loadCell W1 _ _ _ (q1 W1 hW1) (agg_no _ (by kernel_rfl)))) (KpS.refl _ _ _) ?_
            simp only [Act.put, List.setIfInBounds_toArray, List.set_cons_zero, List.set_cons_succ]
            refine held_takeW (i := 9) (v := .int .i64 (ms.take i ++ ms.drop (i + 1)).length) rfl (by kernel_rfl) (by kernel_rfl) (by kernel_rfl) (fun _ _ _ h => h) rfl (fun W1 hW1 => by go_simp) (KpS.refl _ _ _) ?_
            simp only [Act.put, List.setIfInBounds_toArray, List.set_cons_zero, List.set_cons_succ]
            refine held_doW (i := 4) (by kernel_rfl) rfl rfl (wp_enter (f := 10) (args := #[.pointer (some ⟨p, 0, none⟩)]) (by go_simp) (bLenF (PZ.out.b.later (Keeps.refl [] wZ).drew)) ?_)
            rintro e _ ⟨rfl, rfl⟩
            refine ⟨_, rfl, KpS.refl _ _ _, ?_⟩
            simp only [Act.put, List.setIfInBounds_toArray, List.set_cons_zero, List.set_cons_succ]
            refine held_takeW (i := 10) (v := .bool false) rfl (by kernel_rfl) (by kernel_rfl) (by kernel_rfl) (fun _ _ _ h => h) rfl (fun W1 hW1 => by go_simp) (KpS.refl _ _ _) ?_
            simp only [Act.put, List.setIfInBounds_toArray, List.set_cons_zero, List.set_cons_succ]
            refine held_take (i := 11) (v := .bool false) rfl (by kernel_rfl) (by kernel_rfl) (by kernel_rfl) (fun _ _ _ h => h) rfl (fun W1 hW1 => by go_simp) (KpS.refl _ _ _) ?_
            simp only [Act.put, List.setIfInBounds_toArray, List.set_cons_zero, List.set_cons_succ]
            refine held_take (i := 12) (v := .bool false) rfl (by kernel_rfl) (by kernel_rfl) (by kernel_rfl) (fun _ _ _ h => h) rfl (fun W1 hW1 => rfl) (KpS.refl _ _ _) ?_
            simp only [Act.put, List.setIfInBounds_toArray, List.set_cons_zero, List.set_cons_succ]
            refine held_takeW (i := 13) (v := .pointer (some ⟨p, 0, none⟩)) rfl (by kernel_rfl) (by kernel_rfl) (by kernel_rfl) (fun _ _ _ h => h) rfl (fun W1 hW1 => rfl) (KpS.refl _ _ _) ?_
            simp only [Act.put, List.setIfInBounds_toArray, List.set_cons_zero, List.set_cons_succ]
            refine held_takeW (i := 16) (v := .pointer (some ⟨q, 0, none⟩)) rfl (by kernel_rfl) (by kernel_rfl) (by kernel_rfl) (fun _ _ _ h => h) rfl (fun W1 hW1 => rfl) (KpS.refl _ _ _) ?_
            simp only [Act.put, List.setIfInBounds_toArray, List.set_cons_zero, List.set_cons_succ]
            refine held_takeW (i := 17) (v := .pointer (some ⟨q, 0, none⟩)) rfl (by kernel_rfl) (by kernel_rfl) (by kernel_rfl) (fun _ _ _ h => h) rfl (fun W1 hW1 => by go_simp) (KpS.refl _ _ _) ?_
            simp only [Act.put, List.setIfInBounds_toArray, List.set_cons_zero, List.set_cons_succ]
            refine held_takeW (i := 18) (v := .pointer (some ⟨q, 1, none⟩)) rfl (by kernel_rfl) (by kernel_rfl) (by kernel_rfl) (fun _ _ _ h => h) rfl (fun W1 hW1 => by go_simp) (KpS.refl _ _ _) ?_
            simp only [Act.put, List.setIfInBounds_toArray, List.set_cons_zero, List.set_cons_succ]
            refine held_takeW (i := 19) (v := .slice aR (ms.take i ++ ms.drop (i + 1)).length cR) rfl (by kernel_rfl) (by kernel_rfl) (by kernel_rfl) (fun _ _ _ h => h) rfl (fun W1 hW1 => exec_load _ _ _ _ rfl rfl (run_loadCell W1 _ _ _ (q1 W1 hW1) (agg_no _ (by kernel_rfl)))) (KpS.refl _ _ _) ?_
            simp only [Act.put, List.setIfInBounds_toArray, List.set_cons_zero, List.set_cons_succ]
            refine held_doW (i := 14) (by kernel_rfl) rfl rfl (wp_enter (f := 19) (args := #[.pointer (some ⟨p, 0, none⟩)]) (by go_simp) (bAllF (PZ.out.b.later (Keeps.refl [] wZ).drew)) ?_)
            rintro e w3 ⟨a3, c3, g3, ms3, rfl, o3, hc3, hg3, k3⟩
            have l3 := con_len hc3
            have s3 : KpS [] wZ.heap.size wZ.drew w3 := (KpS.refl _ _ _).keeps k3 (Nat.le_refl _) (by simp)
            refine ⟨_, rfl, s3, ?_⟩
            simp only [Act.put, List.setIfInBounds_toArray, List.set_cons_zero, List.set_cons_succ]
            refine held_doW (i := 15) (by kernel_rfl) rfl rfl (wp_enter (f := 18) (args := #[.slice a3 (ms.take i ++ ms.drop (i + 1)).length c3]) (by go_simp) (bModel_any w3 [g3] o3.lt _ ms3 o3.at (by omega)) ?_)
            rintro e w4 ⟨a4, c4, rfl, o4, k4⟩
            have kw4 : Keeps [] wZ w4 := ((Keeps.refl [] wZ).drew.trans k3).trans k4
            have s4 : KpS [] wZ.heap.size wZ.drew w4 := s3.keeps k4 k3.size (by simp)
            refine ⟨_, rfl, s4, ?_⟩
            simp only [Act.put, List.setIfInBounds_toArray, List.set_cons_zero, List.set_cons_succ]
            refine held_doW (i := 20) (by kernel_rfl) rfl rfl (wp_enter (f := 17) (args := #[.slice a4 ms3.length c4, .slice aR (ms.take i ++ ms.drop (i + 1)).length cR]) (by go_simp) (rbSame_any w4 [g3] XR _ _ ms3 (ns.take i ++ ns.drop (i + 1)) o4.at (ATR.out.keep kw4) (by omega) (hc3.trans CON2.out)) ?_)
            rintro e _ ⟨rfl, n5, rfl⟩
            have s5 : KpS [] wZ.heap.size wZ.drew (w4.drewN n5) := s4.keeps ((Keeps.refl [] w4).drewN n5) (by have := s4.size; exact this) (by simp)
            refine ⟨_, rfl, s5, ?_⟩
            simp only [Act.put, List.setIfInBounds_toArray, List.set_cons_zero, List.set_cons_succ]
            refine held_takeW (i := 21) (v := .bool false) rfl (by kernel_rfl) (by kernel_rfl) (by kernel_rfl) (fun _ _ _ h => h) rfl (fun W1 hW1 => by go_simp) (s5) ?_
            simp only [Act.put, List.setIfInBounds_toArray, List.set_cons_zero, List.set_cons_succ]
            refine held_take (i := 22) (v := .bool false) rfl (by kernel_rfl) (by kernel_rfl) (by kernel_rfl) (fun _ _ _ h => h) rfl (fun W1 hW1 => by go_simp) (s5) ?_
            simp only [Act.put, List.setIfInBounds_toArray, List.set_cons_zero, List.set_cons_succ]
            refine wpAnyH_done (by kernel_rfl) ?_ _
            have PF := hid (PZ.out.later (kw4.drewN n5))
            generalize w4.drewN n5 = w6 at PF ⊢
            clear q1 o3 hc3 hg3 k3 l3 s3 o4 k4 kw4 s4 s5 fewB
            go_wp2_with fail
            go_roundw
            case rel => exact ⟨k + 1, _, _, _, _, by omega, by go_num, PF.out, CON2.out⟩
            case measure => simp [intOf]; omega
        · go_wp2_with (first | (refine wpList_is rfl _ _ (exec_load _ _ _ _ rfl rfl ld.out) ?_) | fail)
          have ka := (Keeps.refl [] wr).alloc (.cells #[.int .i64 ds[k].act, .int .i64 ds[k].n, .int .i64 ds[k].m.f, .int .i64 ds[k].m.t, .slice ra ds[k].m.bs.length rc] 40)
          have ba := heap_alloc_new wr (.cells #[.int .i64 ds[k].act, .int .i64 ds[k].n, .int .i64 ds[k].m.f, .int .i64 ds[k].m.t, .slice ra ds[k].m.bs.length rc] 40)
          have PA := hid (P.out.later ka)
          have BA := hid ba
          have NX := hid (P.out.apart (Nat.le_refl _))
          obtain ⟨x, hx⟩ : ∃ x, x = wr.heap.size := ⟨_, rfl⟩
          rw [← hx] at BA NX ⊢
          generalize wr.alloc (.cells #[.int .i64 ds[k].act, .int .i64 ds[k].n, .int .i64 ds[k].m.f, .int .i64 ds[k].m.t, .slice ra ds[k].m.bs.length rc] 40) = wA at ka BA PA ⊢
          clear ka ba hx
          refine (bDropF PA.out.b ds[k].n).mono ?_
          rintro e wB ⟨rfl, F1, b1, kB, fB⟩
          have PB := hid (PA.out.bag b1 kB fB)
          have BB := hid ((kB.block _ (lt_of_block BA.out) NX.out.1).trans BA.out)
          clear kB b1 fB
          obtain ⟨y0, y1, y2, y3, y4⟩ := row_block5 BB.out
          clear y0 y2 y3 y4
          go_wp2_with fail
          refine (rbDropF PB.out.r ds[k].n).mono ?_
          rintro e wC ⟨rfl, G1, r2, kC, fC⟩
          have PC := hid (PB.out.ref r2 kC fC)
          have CON2 := hid (filter_con ds[k].n CON.out)
          rw [← con_len CON2.out, ← con_len CON.out]
          clear kC r2 fC y1
          obtain ⟨XR, vR, hR, hGR⟩ := PC.out.r
          obtain ⟨aR, cR, hvR⟩ := hR.own.shape
          subst hvR
          have LN := con_len CON2.out
          have fewB := PC.out.b.few
          have ATR := hid hR.own.at
          have c1R := hR.c1
          have ltR := hR.lt
          rw [← LN] at ATR c1R
          have C1R := hid c1R
          have LTR := hid ltR
          have LNH := hid LN
          clear hR hGR c1R ltR LN
          go_wp2_with fail
          refine wp_region_any (by kernel_rfl) (wpAny_of_held (S := KpS [] wC.heap.size wC.drew) _ _ _ _ ?_)
          change wpAnyH _ _ _ _ _ _ _ _ wC.drew
          have q1 : ∀ W1, KpS [] wC.heap.size wC.drew W1 → W1.cell? ⟨q, 1, none⟩ = some (.slice aR (ms.filter (keepTo ds[k].n)).length cR) := fun W1 h => h.cell (by rw [World.cell?_drew]; exact C1R.out) LTR.out (by simp)
          refine held_take (i := 0) (v := .bool true) rfl (by kernel_rfl) (by kernel_rfl) (by kernel_rfl) (fun _ _ _ h => h) rfl (fun W1 hW1 => rfl) (KpS.refl _ _ _) ?_
          simp only [Act.put, List.setIfInBounds_toArray, List.set_cons_zero, List.set_cons_succ]
          refine held_take (i := 1) (v := .bool false) rfl (by kernel_rfl) (by kernel_rfl) (by kernel_rfl) (fun _ _ _ h => h) rfl (fun W1 hW1 => by go_simp) (KpS.refl _ _ _) ?_
          simp only [Act.put, List.setIfInBounds_toArray, List.set_cons_zero, List.set_cons_succ]
          refine held_take (i := 2) (v := .bool false) rfl (by kernel_rfl) (by kernel_rfl) (by kernel_rfl) (fun _ _ _ h => h) rfl (fun W1 hW1 => rfl) (KpS.refl _ _ _) ?_
          simp only [Act.put, List.setIfInBounds_toArray, List.set_cons_zero, List.set_cons_succ]
          refine held_takeW (i := 3) (v := .pointer (some ⟨p, 0, none⟩)) rfl (by kernel_rfl) (by kernel_rfl) (by kernel_rfl) (fun _ _ _ h => h) rfl (fun W1 hW1 => rfl) (KpS.refl _ _ _) ?_
          simp only [Act.put, List.setIfInBounds_toArray, List.set_cons_zero, List.set_cons_succ]
          refine held_takeW (i := 5) (v := .pointer (some ⟨q, 0, none⟩)) rfl (by kernel_rfl) (by kernel_rfl) (by kernel_rfl) (fun _ _ _ h => h) rfl (fun W1 hW1 => rfl) (KpS.refl _ _ _) ?_
          simp only [Act.put, List.setIfInBounds_toArray, List.set_cons_zero, List.set_cons_succ]
          refine held_takeW (i := 6) (v := .pointer (some ⟨q, 0, none⟩)) rfl (by kernel_rfl) (by kernel_rfl) (by kernel_rfl) (fun _ _ _ h => h) rfl (fun W1 hW1 => by go_simp) (KpS.refl _ _ _) ?_
          simp only [Act.put, List.setIfInBounds_toArray, List.set_cons_zero, List.set_cons_succ]
          refine held_takeW (i := 7) (v := .pointer (some ⟨q, 1, none⟩)) rfl (by kernel_rfl) (by kernel_rfl) (by kernel_rfl) (fun _ _ _ h => h) rfl (fun W1 hW1 => by go_simp) (KpS.refl _ _ _) ?_
          simp only [Act.put, List.setIfInBounds_toArray, List.set_cons_zero, List.set_cons_succ]
          refine held_takeW (i := 8) (v := .slice aR (ms.filter (keepTo ds[k].n)).length cR) rfl (by kernel_rfl) (by kernel_rfl) (by kernel_rfl) (fun _ _ _ h => h) rfl (fun W1 hW1 => exec_load _ _ _ _ rfl rfl (run_loadCell W1 _ _ _ (q1 W1 hW1) (agg_no _ (by kernel_rfl)))) (KpS.refl _ _ _) ?_
          simp only [Act.put, List.setIfInBounds_toArray, List.set_cons_zero, List.set_cons_succ]
          refine held_takeW (i := 9) (v := .int .i64 (ms.filter (keepTo ds[k].n)).length) rfl (by kernel_rfl) (by kernel_rfl) (by kernel_rfl) (fun _ _ _ h => h) rfl (fun W1 hW1 => by go_simp) (KpS.refl _ _ _) ?_
          simp only [Act.put, List.setIfInBounds_toArray, List.set_cons_zero, List.set_cons_succ]
          refine held_doW (i := 4) (by kernel_rfl) rfl rfl (wp_enter (f := 10) (args := #[.pointer (some ⟨p, 0, none⟩)]) (by go_simp) (bLenF (PC.out.b.later (Keeps.refl [] wC).drew)) ?_)
          rintro e _ ⟨rfl, rfl⟩
          refine ⟨_, rfl, KpS.refl _ _ _, ?_⟩
          simp only [Act.put, List.setIfInBounds_toArray, List.set_cons_zero, List.set_cons_succ]
          refine held_takeW (i := 10) (v := .bool false) rfl (by kernel_rfl) (by kernel_rfl) (by kernel_rfl) (fun _ _ _ h => h) rfl (fun W1 hW1 => by go_simp) (KpS.refl _ _ _) ?_
          simp only [Act.put, List.setIfInBounds_toArray, List.set_cons_zero, List.set_cons_succ]
          refine held_take (i := 11) (v := .bool false) rfl (by kernel_rfl) (by kernel_rfl) (by kernel_rfl) (fun _ _ _ h => h) rfl (fun W1 hW1 => by go_simp) (KpS.refl _ _ _) ?_
          simp only [Act.put, List.setIfInBounds_toArray, List.set_cons_zero, List.set_cons_succ]
          refine held_take (i := 12) (v := .bool false) rfl (by kernel_rfl) (by kernel_rfl) (by kernel_rfl) (fun _ _ _ h => h) rfl (fun W1 hW1 => rfl) (KpS.refl _ _ _) ?_
          simp only [Act.put, List.setIfInBounds_toArray, List.set_cons_zero, List.set_cons_succ]
          refine held_takeW (i := 13) (v := .pointer (some ⟨p, 0, none⟩)) rfl (by kernel_rfl) (by kernel_rfl) (by kernel_rfl) (fun _ _ _ h => h) rfl (fun W1 hW1 => rfl) (KpS.refl _ _ _) ?_
          simp only [Act.put, List.setIfInBounds_toArray, List.set_cons_zero, List.set_cons_succ]
          refine held_takeW (i := 16) (v := .pointer (some ⟨q, 0, none⟩)) rfl (by kernel_rfl) (by kernel_rfl) (by kernel_rfl) (fun _ _ _ h => h) rfl (fun W1 hW1 => rfl) (KpS.refl _ _ _) ?_
          simp only [Act.put, List.setIfInBounds_toArray, List.set_cons_zero, List.set_cons_succ]
          refine held_takeW (i := 17) (v := .pointer (some ⟨q, 0, none⟩)) rfl (by kernel_rfl) (by kernel_rfl) (by kernel_rfl) (fun _ _ _ h => h) rfl (fun W1 hW1 => by go_simp) (KpS.refl _ _ _) ?_
          simp only [Act.put, List.setIfInBounds_toArray, List.set_cons_zero, List.set_cons_succ]
          refine held_takeW (i := 18) (v := .pointer (some ⟨q, 1, none⟩)) rfl (by kernel_rfl) (by kernel_rfl) (by kernel_rfl) (fun _ _ _ h => h) rfl (fun W1 hW1 => by go_simp) (KpS.refl _ _ _) ?_
          simp only [Act.put, List.setIfInBounds_toArray, List.set_cons_zero, List.set_cons_succ]
          refine held_takeW (i := 19) (v := .slice aR (ms.filter (keepTo ds[k].n)).length cR) rfl (by kernel_rfl) (by kernel_rfl) (by kernel_rfl) (fun _ _ _ h => h) rfl (fun W1 hW1 => exec_load _ _ _ _ rfl rfl (run_loadCell W1 _ _ _ (q1 W1 hW1) (agg_no _ (by kernel_rfl)))) (KpS.refl _ _ _) ?_
          simp only [Act.put, List.setIfInBounds_toArray, List.set_cons_zero, List.set_cons_succ]
          refine held_doW (i := 14) (by kernel_rfl) rfl rfl (wp_enter (f := 19) (args := #[.pointer (some ⟨p, 0, none⟩)]) (by go_simp) (bAllF (PC.out.b.later (Keeps.refl [] wC).drew)) ?_)
          rintro e w3 ⟨a3, c3, g3, ms3, rfl, o3, hc3, hg3, k3⟩
          have l3 := con_len hc3
          have s3 : KpS [] wC.heap.size wC.drew w3 := (KpS.refl _ _ _).keeps k3 (Nat.le_refl _) (by simp)
          refine ⟨_, rfl, s3, ?_⟩
          simp only [Act.put, List.setIfInBounds_toArray, List.set_cons_zero, List.set_cons_succ]
          refine held_doW (i := 15) (by kernel_rfl) rfl rfl (wp_enter (f := 18) (args := #[.slice a3 (ms.filter (keepTo ds[k].n)).length c3]) (by go_simp) (bModel_any w3 [g3] o3.lt _ ms3 o3.at (by omega)) ?_)
          rintro e w4 ⟨a4, c4, rfl, o4, k4⟩
          have kw4 : Keeps [] wC w4 := ((Keeps.refl [] wC).drew.trans k3).trans k4
          have s4 : KpS [] wC.heap.size wC.drew w4 := s3.keeps k4 k3.size (by simp)
          refine ⟨_, rfl, s4, ?_⟩
          simp only [Act.put, List.setIfInBounds_toArray, List.set_cons_zero, List.set_cons_succ]
          refine held_doW (i := 20) (by kernel_rfl) rfl rfl (wp_enter (f := 17) (args := #[.slice a4 ms3.length c4, .slice aR (ms.filter (keepTo ds[k].n)).length cR]) (by go_simp) (rbSame_any w4 [g3] XR _ _ ms3 (ns.filter (keepTo ds[k].n)) o4.at (ATR.out.keep kw4) (by omega) (hc3.trans CON2.out)) ?_)
          rintro e _ ⟨rfl, n5, rfl⟩
          have s5 : KpS [] wC.heap.size wC.drew (w4.drewN n5) := s4.keeps ((Keeps.refl [] w4).drewN n5) (by have := s4.size; exact this) (by simp)
          refine ⟨_, rfl, s5, ?_⟩
          simp only [Act.put, List.setIfInBounds_toArray, List.set_cons_zero, List.set_cons_succ]
          refine held_takeW (i := 21) (v := .bool false) rfl (by kernel_rfl) (by kernel_rfl) (by kernel_rfl) (fun _ _ _ h => h) rfl (fun W1 hW1 => by go_simp) (s5) ?_
          simp only [Act.put, List.setIfInBounds_toArray, List.set_cons_zero, List.set_cons_succ]
          refine held_take (i := 22) (v := .bool false) rfl (by kernel_rfl) (by kernel_rfl) (by kernel_rfl) (fun _ _ _ h => h) rfl (fun W1 hW1 => by go_simp) (s5) ?_
          simp only [Act.put, List.setIfInBounds_toArray, List.set_cons_zero, List.set_cons_succ]
          refine wpAnyH_done (by kernel_rfl) ?_ _
          have PF := hid (PC.out.later (kw4.drewN n5))
          generalize w4.drewN n5 = w6 at PF ⊢
          clear q1 o3 hc3 hg3 k3 l3 s3 o4 k4 kw4 s4 s5 fewB
          go_wp2_with fail
          go_roundw
          case rel => exact ⟨k + 1, _, _, _, _, by omega, by go_num, PF.out, CON2.out⟩
          case measure => simp [intOf]; omega
    · obtain rfl : k = ds.length := by omega
      go_wp2_with fail
      go_ret
      exact ⟨rfl, P.out.k⟩
end Go.Proofs.Ytehbibimfjipiaa
