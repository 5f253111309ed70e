/- The walk of the law OncePlays. -/
import Derived.Test.YtkfebgbgnpdgpaaOnQ
import Derived.Test.YtkfebgbgnpdgpaaKitB
namespace Go.Proofs.Ytkfebgbgnpdgpaa
open Go.RowKit Go.Shelf
set_option maxRecDepth 100000
set_option linter.unusedSimpArgs false

theorem wpAnyH_mono {P : Program} {md : Region.Mode} {ops : Array Oper} {Q : Exit → Act → World → Prop} {S S' : World → Prop} (hs : ∀ W, S' W → S W) : ∀ (fuel : Nat) (listed : Array Bool) (a : Act) (w : World), wpAnyH P md ops Q S' fuel listed a w → wpAnyH P md ops Q S fuel listed a w
  | 0, _, _, _, h => h
  | fuel + 1, _, _, _, h => ⟨h.1, fun i hi => wpOp_mono (fun a' w' h' => ⟨hs _ h'.1, wpAnyH_mono hs fuel _ a' w' h'.2⟩) (h.2 i hi)⟩
theorem RefAt.fit {w q M T v rs} (h : RefAt w q M T v rs) (c l s : Int) : (replyS T c l s).length ≤ 100 := by
  unfold replyS
  split
  · rename_i hk
    have hm : mayS c l s = true := by
      cases hh : mayS c l s with
      | true => rfl
      | false => simp [kindS, hh] at hk
    obtain ⟨q1, q2, _⟩ := mayS_is.1 hm
    cases hT : T c.toNat with
    | none => simp [replyE]
    | some e =>
      obtain ⟨hn, hc⟩ := refL_get8 hT (by omega) h.con
      simp only [Rw.con, Prod.mk.injEq] at hc
      have := (h.rows.ok _ (List.getElem_mem hn)).fit
      obtain ⟨e1, e2, e3⟩ := e
      simp only at hc
      rw [hc.2.2.2] at this
      exact this
  · simp
theorem ref_new (w : World) (p : Nat) (hp : p < w.heap.size) : RefAt (w.alloc (.cells #[.slice none 0 0] 55)) w.heap.size [p, w.heap.size] tab0 (.slice none 0 0) [] :=
  ⟨heap_alloc_new w _, by simp, RwsAt.nil _ _, rfl, fun _ _ _ _ _ h => (by cases h), fun b hb => by
    simp at hb
    rcases hb with rfl | rfl <;> simp <;> omega⟩

set_option maxHeartbeats 12800000 in
theorem j8Plays_any (W : World) (u v x : Value) (ls : List Rw) (zs : List (Int × Int × Int)) (rw : List Rw) (hx : R4sAt W u ls) (hz : S3sAt W v zs) (hy : R4sAt W x rw) : Calls Try.prog 5 #[u, v, x] W fun e w' => e = .returned (.bool true) ∧ Keeps [] W w' := by
  obtain ⟨a, ca, rfl, -⟩ := id hx
  obtain ⟨az, cz, rfl, -⟩ := id hz
  obtain ⟨b, cb, rfl, -⟩ := id hy
  have HX := hid hx
  have HY := hid hy
  have HZ := hid hz
  clear hx hy hz
  have AW := hid (fun w => j8Awake_any w)
  go_enter Try.func5, Try.ntmps5
  go_wp2_with fail
  refine (AW.out W).mono ?_
  rintro e w1 ⟨rfl, k1⟩
  have K1 := hid k1
  clear k1
  have SL := hid (j8Small_any w1 _ ls (HX.out.keep K1.out))
  have SK := hid (j8Small_any w1 _ rw (HY.out.keep K1.out))
  go_wp2_with fail
  refine SL.out.mono ?_
  rintro e _ ⟨⟨b1, rfl, hb1⟩, rfl⟩
  cases b1 with
  | false =>
    go_wp2_with fail
    go_ret
    exact ⟨rfl, K1.out⟩
  | true =>
    have LS := hid (hb1 rfl)
    clear hb1
    go_wp2_with fail
    refine SK.out.mono ?_
    rintro e _ ⟨⟨b2, rfl, hb2⟩, rfl⟩
    cases b2 with
    | false =>
      go_wp2_with fail
      go_ret
      exact ⟨rfl, K1.out⟩
    | true =>
      have KS := hid (hb2 rfl)
      clear hb2 SL SK
      have l1 := LS.out.1
      have l2 := KS.out.1
      by_cases hzl : zs.length ≤ 100
      · go_wp2_with fail
        refine (newF w1 [] (by simp)).mono ?_
        rintro e w2 ⟨p, hp, rfl, h2, k2⟩
        have H2 := hid h2
        have K2 := hid (K1.out.trans k2)
        have HP : Hid (W.heap.size ≤ p) := hid (Nat.le_trans K1.out.size hp)
        have hpl := h2.lt p (by simp)
        have HM0 := hid (ref_new w2 p hpl)
        have ka := (Keeps.refl [] w2).alloc (.cells #[.slice none 0 0] 55)
        have HW0 := hid (H2.out.grow (N := [p, w2.heap.size]) ka (by simp) (by simp) (by simp) (fun b hb => by
          simp at hb
          rcases hb with rfl | rfl
          · exact Or.inl (by simp)
          · exact Or.inr (Nat.le_refl _)) (fun b hb => HM0.out.lt b hb))
        have KA := hid (K2.out.trans ka)
        have NQ : Hid (W.heap.size ≤ w2.heap.size) := hid K2.out.size
        have PQ : Hid (p ≠ w2.heap.size) := hid (by omega)
        clear h2 k2 hp ka
        go_wp2_with fail
        obtain ⟨q, hq⟩ : ∃ q, q = w2.heap.size := ⟨_, rfl⟩
        rw [← hq] at HM0 HW0 NQ PQ ⊢
        clear hq hpl H2
        generalize w2.alloc (.cells #[.slice none 0 0] 55) = wa at HM0 HW0 KA ⊢
        obtain ⟨M, hM⟩ : ∃ M, M = [p, q] := ⟨_, rfl⟩
        rw [← hM] at HM0 HW0
        have hqM : ∀ b ∈ [q], b ∈ M := by rw [hM]; simp
        have hpM : ∀ b ∈ [p], b ∈ M := by rw [hM]; simp
        have pq : p ∉ [q] := by simpa using PQ.out
        have qp : q ∉ [p] := by simpa using fun e => PQ.out e.symm
        clear hM
        go_loopw [9] (fun iv wr => ∃ (i : Nat) (T : Tab) (mv : Value) (ms : List Rw), i ≤ ls.length ∧ iv = .int .i64 i ∧ WinF wr p M T ∧ RefAt wr q M T mv ms ∧ Keeps [] W wr) (fun iv _ => ls.length - (intOf iv).toNat)
        case atStart => exact ⟨0, tab0, _, [], by omega, rfl, HW0.out, HM0.out, KA.out⟩
        case round =>
          obtain ⟨i, T, mv, ms, hi, rfl, hw, hm, kk⟩ := hrel
          have HW := hid hw
          have HMr := hid hm
          have KK := hid kk
          clear hw hm kk
          by_cases hlt : i < ls.length
          · obtain ⟨g, off, ra, rc, ha, rin⟩ := HX.out.in LS.out.2 i hlt
            subst ha
            obtain ⟨r, hr⟩ : ∃ r, r = ls[i] := ⟨_, rfl⟩
            rw [← hr] at rin
            have RIN := hid rin
            have ST := hid (fun w => j8Stamp_any w r.c r.l r.s)
            unfold stV at ST
            obtain ⟨dA, hdA⟩ : ∃ z, z = doneA T r.c r.l r.s := ⟨_, rfl⟩
            have DA := hid hdA.symm
            have gq : g ∉ [q] := by have := rin.gl; have := NQ.out; simp; omega
            clear rin hr hdA
            by_cases hza : i < zs.length
            · obtain ⟨gz, oz, haz, -, -, sA⟩ := HZ.out.at i hza
              subst haz
              obtain ⟨z, hz2⟩ : ∃ z, z = zs[i] := ⟨_, rfl⟩
              rw [← hz2] at sA
              have SA := hid sA
              have Z1 := hid (sA.keep KK.out)
              have SZ := hid (fun w => j8Stamp_any w z.1 z.2.1 z.2.2)
              obtain ⟨ko, hko⟩ : ∃ y, y = kindS T z.1 z.2.1 z.2.2 := ⟨_, rfl⟩
              obtain ⟨rp, hrp⟩ : ∃ y, y = replyS T z.1 z.2.1 z.2.2 := ⟨_, rfl⟩
              have KO := hid hko.symm
              have RP := hid hrp.symm
              have RF := hid (HMr.out.fit z.1 z.2.1 z.2.2)
              rw [RP.out] at RF
              clear sA hz2 hko hrp
              unfold stV at SZ
              go_wp2_with (first | (refine wpList_is rfl _ _ (exec_load _ _ _ _ rfl rfl (loadV8 Z1.out.c0 Z1.out.c1 Z1.out.c2)) ?_) | (go_at_call 24; refine (SZ.out _).mono ?_; rintro e w3 ⟨rfl, k3⟩; have KB := hid k3; have AK := hid (askF (HW.out.later k3) z.1 z.2.1 z.2.2); unfold stV AskPost at AK; rw [KO.out, RP.out] at AK; clear k3) | (go_at_call 20; refine AK.out.mono ?_; rintro e w4 ⟨a4, n4, rfl, r4, -, k4⟩; have KC := hid (KB.out.trans k4); have R4 := hid r4; clear k4 r4; have Z1 := hid (SA.out.keep (KK.out.trans KC.out)); have RK := hid (vAsk_any w4 q M T mv ms (HMr.out.later KC.out) z.1 z.2.1 z.2.2); unfold stV AskPost at RK; rw [KO.out, RP.out] at RK) | (go_at_call 25; refine RK.out.mono ?_; rintro e w5 ⟨a5, n5, rfl, r5, -, k5⟩; have KE := hid (KC.out.trans k5); have R5 := hid r5; have R4 := hid (R4.out.keep k5 (by intro _ _ _ _ _; simp)); have SM := hid (same_any w5 _ _ rp rp R4.out R5.out (by have := RF.out; omega) (by have := RF.out; omega)); rw [decide_eq_true rfl] at SM; clear k5 r5) | (go_at_call 15; refine SM.out.mono ?_; rintro e wq ⟨rfl, nq, rfl⟩; have KF := hid (KE.out.drewN nq)) | fail)
              generalize w5.drewN nq = wq at KF ⊢
              have KX := hid (KK.out.trans KF.out)
              have HWX := hid (HW.out.later KF.out)
              have HMX := hid (HMr.out.later KF.out)
              have rW := RIN.out.keep KX.out
              have RR := hid rW.at4
              have D3W := hid rW.d3
              have RROW := hid rW.row
              have GL := hid rW.gl
              have FIT := hid rW.fit
              clear rW
              refine wp_region_any (by kernel_rfl) (wpAny_of_late (late := [12, 13]) (S := KpS [] wq.heap.size wq.drew) _ _ _ _ ?_)
              change wpAnyT _ _ _ _ _ _ _ _ _ wq.drew
              have D0 : ∀ W1, KpS [] wq.heap.size wq.drew W1 → W1.cell? ⟨g, off + i * 4, none⟩ = some (.int .i64 r.c) := fun W1 h => h.cell (by rw [World.cell?_drew]; exact RR.out.c0) GL.out (by simp)
              have D1 : ∀ W1, KpS [] wq.heap.size wq.drew W1 → W1.cell? ⟨g, off + i * 4 + 1, none⟩ = some (.int .i64 r.l) := fun W1 h => h.cell (by rw [World.cell?_drew]; exact RR.out.c1) GL.out (by simp)
              have D2 : ∀ W1, KpS [] wq.heap.size wq.drew W1 → W1.cell? ⟨g, off + i * 4 + 2, none⟩ = some (.int .i64 r.s) := fun W1 h => h.cell (by rw [World.cell?_drew]; exact RR.out.c2) GL.out (by simp)
              have D3 : ∀ W1, KpS [] wq.heap.size wq.drew W1 → W1.cell? ⟨g, off + i * 4 + 3, none⟩ = some (.slice ra r.bs.length rc) := fun W1 h => h.cell (by rw [World.cell?_drew]; exact D3W.out) GL.out (by simp)
              refine late_take (i := 0) (v := .pointer (some ⟨p, 0, none⟩)) rfl (by kernel_rfl) (by kernel_rfl) (by kernel_rfl) (by kernel_rfl) (by kernel_rfl) (fun _ _ _ h => h) rfl (fun W1 hW1 => rfl) (KpS.refl _ _ _) ?_
              simp only [Act.put, List.setIfInBounds_toArray, List.set_cons_zero, List.set_cons_succ]
              refine late_take (i := 1) (v := .slice (some ⟨g, off, none⟩) ls.length ca) rfl (by kernel_rfl) (by kernel_rfl) (by kernel_rfl) (by kernel_rfl) (by kernel_rfl) (fun _ _ _ h => h) rfl (fun W1 hW1 => rfl) (KpS.refl _ _ _) ?_
              simp only [Act.put, List.setIfInBounds_toArray, List.set_cons_zero, List.set_cons_succ]
              refine late_take (i := 2) (v := .int .i64 i) rfl (by kernel_rfl) (by kernel_rfl) (by kernel_rfl) (by kernel_rfl) (by kernel_rfl) (fun _ _ _ h => h) rfl (fun W1 hW1 => rfl) (KpS.refl _ _ _) ?_
              simp only [Act.put, List.setIfInBounds_toArray, List.set_cons_zero, List.set_cons_succ]
              refine late_take (i := 3) (v := .pointer (some ⟨g, off + i * 4, none⟩)) rfl (by kernel_rfl) (by kernel_rfl) (by kernel_rfl) (by kernel_rfl) (by kernel_rfl) (fun _ _ _ h => h) rfl (fun W1 hW1 => by go_simp) (KpS.refl _ _ _) ?_
              simp only [Act.put, List.setIfInBounds_toArray, List.set_cons_zero, List.set_cons_succ]
              refine late_take (i := 4) (v := .pointer (some ⟨g, off + i * 4, none⟩)) rfl (by kernel_rfl) (by kernel_rfl) (by kernel_rfl) (by kernel_rfl) (by kernel_rfl) (fun _ _ _ h => h) rfl (fun W1 hW1 => by go_simp) (KpS.refl _ _ _) ?_
              simp only [Act.put, List.setIfInBounds_toArray, List.set_cons_zero, List.set_cons_succ]
              refine late_take (i := 5) (v := .agg #[.int .i64 r.c, .int .i64 r.l, .int .i64 r.s]) rfl (by kernel_rfl) (by kernel_rfl) (by kernel_rfl) (by kernel_rfl) (by kernel_rfl) (fun _ _ _ h => h) rfl (fun W1 hW1 => exec_load _ _ _ _ rfl rfl (loadV8 (D0 W1 hW1) (D1 W1 hW1) (D2 W1 hW1))) (KpS.refl _ _ _) ?_
              simp only [Act.put, List.setIfInBounds_toArray, List.set_cons_zero, List.set_cons_succ]
              refine late_take (i := 7) (v := .slice (some ⟨g, off, none⟩) ls.length ca) rfl (by kernel_rfl) (by kernel_rfl) (by kernel_rfl) (by kernel_rfl) (by kernel_rfl) (fun _ _ _ h => h) rfl (fun W1 hW1 => rfl) (KpS.refl _ _ _) ?_
              simp only [Act.put, List.setIfInBounds_toArray, List.set_cons_zero, List.set_cons_succ]
              refine late_take (i := 8) (v := .int .i64 i) rfl (by kernel_rfl) (by kernel_rfl) (by kernel_rfl) (by kernel_rfl) (by kernel_rfl) (fun _ _ _ h => h) rfl (fun W1 hW1 => rfl) (KpS.refl _ _ _) ?_
              simp only [Act.put, List.setIfInBounds_toArray, List.set_cons_zero, List.set_cons_succ]
              refine late_take (i := 9) (v := .pointer (some ⟨g, off + i * 4, none⟩)) rfl (by kernel_rfl) (by kernel_rfl) (by kernel_rfl) (by kernel_rfl) (by kernel_rfl) (fun _ _ _ h => h) rfl (fun W1 hW1 => by go_simp) (KpS.refl _ _ _) ?_
              simp only [Act.put, List.setIfInBounds_toArray, List.set_cons_zero, List.set_cons_succ]
              refine late_take (i := 10) (v := .pointer (some ⟨g, off + i * 4 + 3, none⟩)) rfl (by kernel_rfl) (by kernel_rfl) (by kernel_rfl) (by kernel_rfl) (by kernel_rfl) (fun _ _ _ h => h) rfl (fun W1 hW1 => by go_simp) (KpS.refl _ _ _) ?_
              simp only [Act.put, List.setIfInBounds_toArray, List.set_cons_zero, List.set_cons_succ]
              refine late_take (i := 11) (v := .slice ra r.bs.length rc) rfl (by kernel_rfl) (by kernel_rfl) (by kernel_rfl) (by kernel_rfl) (by kernel_rfl) (fun _ _ _ h => h) rfl (fun W1 hW1 => exec_load _ _ _ _ rfl rfl (run_loadCell W1 _ _ _ (D3 W1 hW1) (agg_no _ (by kernel_rfl)))) (KpS.refl _ _ _) ?_
              simp only [Act.put, List.setIfInBounds_toArray, List.set_cons_zero, List.set_cons_succ]
              refine late_do (i := 6) (by kernel_rfl) rfl rfl (wp_enter (f := 24) (args := #[.agg #[.int .i64 r.c, .int .i64 r.l, .int .i64 r.s]]) (by go_simp) (ST.out wq.drew) ?_)
              rintro e w3 ⟨rfl, k3⟩
              have sC : KpS [] wq.heap.size wq.drew w3 := (KpS.refl _ _ _).keeps k3 (by simp) (by simp)
              refine ⟨_, rfl, Or.inr sC, ?_⟩
              simp only [Act.put, List.setIfInBounds_toArray, List.set_cons_zero, List.set_cons_succ]
              have kD : Keeps [] wq w3 := (Keeps.refl [] wq).drew.trans k3
              have DN := doneF (HWX.out.later kD) r.c r.l r.s ra rc _ r.bs rfl (RROW.out.keep kD (by intro _ _ _ _ _; simp)) FIT.out
              rw [DA.out] at DN
              unfold stV at DN
              refine late_do (i := 12) (by kernel_rfl) rfl rfl (wp_enter (f := 21) (args := #[.pointer (some ⟨p, 0, none⟩), .agg #[.int .i64 r.c, .int .i64 r.l, .int .i64 r.s], .slice ra r.bs.length rc]) (by go_simp) (DN) ?_)
              rintro e w4 ⟨rfl, h4, k4⟩
              refine ⟨_, rfl, Or.inl rfl, ?_⟩
              simp only [Act.put, List.setIfInBounds_toArray, List.set_cons_zero, List.set_cons_succ]
              refine late_do (i := 13) (by kernel_rfl) rfl rfl (wp_value (w' := w4) (v := .int .i64 dA) (by go_simp) ?_)
              refine ⟨Or.inl rfl, ?_⟩
              simp only [Act.put, List.setIfInBounds_toArray, List.set_cons_zero, List.set_cons_succ]
              refine wpAnyT_done (by kernel_rfl) ?_ _
              have H4 := hid h4
              have K4 : Hid (Keeps [p] wq w4) := hid ((kD.mono (S' := [p]) (by simp)).trans k4)
              clear D0 D1 D2 D3 sC kD h4 k4 DN k3
              have KX := hid (KX.out.news K4.out (by simpa using HP.out))
              have HW2 := hid H4.out
              have HMr := hid (HMX.out.keep K4.out hpM qp)
              have rW := RIN.out.keep KX.out
              have RR := hid rW.at4
              have D3W := hid rW.d3
              have RROW := hid rW.row
              have GL := hid rW.gl
              clear rW
              go_wp2_with fail
              refine wp_region_any (by kernel_rfl) (wpAny_of_held (S := KpS [q] w4.heap.size w4.drew) _ _ _ _ ?_)
              change wpAnyH _ _ _ _ _ _ _ _ w4.drew
              have D0 : ∀ W1, KpS [q] w4.heap.size w4.drew W1 → W1.cell? ⟨g, off + i * 4, none⟩ = some (.int .i64 r.c) := fun W1 h => h.cell (by rw [World.cell?_drew]; exact RR.out.c0) GL.out gq
              have D1 : ∀ W1, KpS [q] w4.heap.size w4.drew W1 → W1.cell? ⟨g, off + i * 4 + 1, none⟩ = some (.int .i64 r.l) := fun W1 h => h.cell (by rw [World.cell?_drew]; exact RR.out.c1) GL.out gq
              have D2 : ∀ W1, KpS [q] w4.heap.size w4.drew W1 → W1.cell? ⟨g, off + i * 4 + 2, none⟩ = some (.int .i64 r.s) := fun W1 h => h.cell (by rw [World.cell?_drew]; exact RR.out.c2) GL.out gq
              have D3 : ∀ W1, KpS [q] w4.heap.size w4.drew W1 → W1.cell? ⟨g, off + i * 4 + 3, none⟩ = some (.slice ra r.bs.length rc) := fun W1 h => h.cell (by rw [World.cell?_drew]; exact D3W.out) GL.out gq
              refine held_take (i := 0) (v := .int .i64 dA) rfl (by kernel_rfl) (by kernel_rfl) (by kernel_rfl) (fun _ _ _ h => h) rfl (fun W1 hW1 => rfl) (KpS.refl _ _ _) ?_
              simp only [Act.put, List.setIfInBounds_toArray, List.set_cons_zero, List.set_cons_succ]
              refine held_take (i := 1) (v := .pointer (some ⟨q, 0, none⟩)) rfl (by kernel_rfl) (by kernel_rfl) (by kernel_rfl) (fun _ _ _ h => h) rfl (fun W1 hW1 => rfl) (KpS.refl _ _ _) ?_
              simp only [Act.put, List.setIfInBounds_toArray, List.set_cons_zero, List.set_cons_succ]
              refine held_take (i := 2) (v := .slice (some ⟨g, off, none⟩) ls.length ca) rfl (by kernel_rfl) (by kernel_rfl) (by kernel_rfl) (fun _ _ _ h => h) rfl (fun W1 hW1 => rfl) (KpS.refl _ _ _) ?_
              simp only [Act.put, List.setIfInBounds_toArray, List.set_cons_zero, List.set_cons_succ]
              refine held_take (i := 3) (v := .int .i64 i) rfl (by kernel_rfl) (by kernel_rfl) (by kernel_rfl) (fun _ _ _ h => h) rfl (fun W1 hW1 => rfl) (KpS.refl _ _ _) ?_
              simp only [Act.put, List.setIfInBounds_toArray, List.set_cons_zero, List.set_cons_succ]
              refine held_take (i := 4) (v := .pointer (some ⟨g, off + i * 4, none⟩)) rfl (by kernel_rfl) (by kernel_rfl) (by kernel_rfl) (fun _ _ _ h => h) rfl (fun W1 hW1 => by go_simp) (KpS.refl _ _ _) ?_
              simp only [Act.put, List.setIfInBounds_toArray, List.set_cons_zero, List.set_cons_succ]
              refine held_take (i := 5) (v := .pointer (some ⟨g, off + i * 4, none⟩)) rfl (by kernel_rfl) (by kernel_rfl) (by kernel_rfl) (fun _ _ _ h => h) rfl (fun W1 hW1 => by go_simp) (KpS.refl _ _ _) ?_
              simp only [Act.put, List.setIfInBounds_toArray, List.set_cons_zero, List.set_cons_succ]
              refine held_take (i := 6) (v := .agg #[.int .i64 r.c, .int .i64 r.l, .int .i64 r.s]) rfl (by kernel_rfl) (by kernel_rfl) (by kernel_rfl) (fun _ _ _ h => h) rfl (fun W1 hW1 => exec_load _ _ _ _ rfl rfl (loadV8 (D0 W1 hW1) (D1 W1 hW1) (D2 W1 hW1))) (KpS.refl _ _ _) ?_
              simp only [Act.put, List.setIfInBounds_toArray, List.set_cons_zero, List.set_cons_succ]
              refine held_take (i := 7) (v := .slice (some ⟨g, off, none⟩) ls.length ca) rfl (by kernel_rfl) (by kernel_rfl) (by kernel_rfl) (fun _ _ _ h => h) rfl (fun W1 hW1 => rfl) (KpS.refl _ _ _) ?_
              simp only [Act.put, List.setIfInBounds_toArray, List.set_cons_zero, List.set_cons_succ]
              refine held_take (i := 8) (v := .int .i64 i) rfl (by kernel_rfl) (by kernel_rfl) (by kernel_rfl) (fun _ _ _ h => h) rfl (fun W1 hW1 => rfl) (KpS.refl _ _ _) ?_
              simp only [Act.put, List.setIfInBounds_toArray, List.set_cons_zero, List.set_cons_succ]
              refine held_take (i := 9) (v := .pointer (some ⟨g, off + i * 4, none⟩)) rfl (by kernel_rfl) (by kernel_rfl) (by kernel_rfl) (fun _ _ _ h => h) rfl (fun W1 hW1 => by go_simp) (KpS.refl _ _ _) ?_
              simp only [Act.put, List.setIfInBounds_toArray, List.set_cons_zero, List.set_cons_succ]
              refine held_take (i := 10) (v := .pointer (some ⟨g, off + i * 4 + 3, none⟩)) rfl (by kernel_rfl) (by kernel_rfl) (by kernel_rfl) (fun _ _ _ h => h) rfl (fun W1 hW1 => by go_simp) (KpS.refl _ _ _) ?_
              simp only [Act.put, List.setIfInBounds_toArray, List.set_cons_zero, List.set_cons_succ]
              refine held_take (i := 11) (v := .slice ra r.bs.length rc) rfl (by kernel_rfl) (by kernel_rfl) (by kernel_rfl) (fun _ _ _ h => h) rfl (fun W1 hW1 => exec_load _ _ _ _ rfl rfl (run_loadCell W1 _ _ _ (D3 W1 hW1) (agg_no _ (by kernel_rfl)))) (KpS.refl _ _ _) ?_
              simp only [Act.put, List.setIfInBounds_toArray, List.set_cons_zero, List.set_cons_succ]
              have RD := vDone_any w4.drew q M T mv ms (HMr.out.later (Keeps.refl [] w4).drew) r.c r.l r.s ra rc r.bs (RROW.out.keep ((Keeps.refl [] w4).drew) (by intro _ _ _ _ _; simp)) FIT.out
              unfold stV at RD
              rw [DA.out] at RD
              refine held_do (i := 12) (by kernel_rfl) rfl rfl (wp_enter (f := 26) (args := #[.pointer (some ⟨q, 0, none⟩), .agg #[.int .i64 r.c, .int .i64 r.l, .int .i64 r.s], .slice ra r.bs.length rc]) (by go_simp) (RD) ?_)
              rintro e w5 ⟨rfl, ⟨mv5, ms5, hm5⟩, k5⟩
              have s5 : KpS [q] w4.heap.size w4.drew w5 := (KpS.refl _ _ _).keeps k5 (Nat.le_refl _) (fun j hj _ => hj)
              refine ⟨_, rfl, s5, ?_⟩
              simp only [Act.put, List.setIfInBounds_toArray, List.set_cons_zero, List.set_cons_succ]
              refine held_take (i := 13) (v := .bool false) rfl (by kernel_rfl) (by kernel_rfl) (by kernel_rfl) (fun _ _ _ h => h) rfl (fun W1 hW1 => by go_simp) (s5) ?_
              simp only [Act.put, List.setIfInBounds_toArray, List.set_cons_zero, List.set_cons_succ]
              refine held_take (i := 14) (v := .bool false) rfl (by kernel_rfl) (by kernel_rfl) (by kernel_rfl) (fun _ _ _ h => h) rfl (fun W1 hW1 => by go_simp) (s5) ?_
              simp only [Act.put, List.setIfInBounds_toArray, List.set_cons_zero, List.set_cons_succ]
              have kw5 : Keeps [q] w4 w5 := ((Keeps.refl [q] w4).drew).trans k5
              have hw5 := HW2.out.keep kw5 hqM pq
              refine held_takeW (i := 15) (v := .pointer (some ⟨p, 0, none⟩)) rfl (by kernel_rfl) (by kernel_rfl) (by kernel_rfl) (fun _ _ _ h => h) rfl (fun W1 hW1 => rfl) (s5) ?_
              simp only [Act.put, List.setIfInBounds_toArray, List.set_cons_zero, List.set_cons_succ]
              refine held_takeW (i := 16) (v := .slice (some ⟨g, off, none⟩) ls.length ca) rfl (by kernel_rfl) (by kernel_rfl) (by kernel_rfl) (fun _ _ _ h => h) rfl (fun W1 hW1 => rfl) (s5) ?_
              simp only [Act.put, List.setIfInBounds_toArray, List.set_cons_zero, List.set_cons_succ]
              refine held_takeW (i := 17) (v := .int .i64 i) rfl (by kernel_rfl) (by kernel_rfl) (by kernel_rfl) (fun _ _ _ h => h) rfl (fun W1 hW1 => rfl) (s5) ?_
              simp only [Act.put, List.setIfInBounds_toArray, List.set_cons_zero, List.set_cons_succ]
              refine held_takeW (i := 18) (v := .pointer (some ⟨g, off + i * 4, none⟩)) rfl (by kernel_rfl) (by kernel_rfl) (by kernel_rfl) (fun _ _ _ h => h) rfl (fun W1 hW1 => by go_simp) (s5) ?_
              simp only [Act.put, List.setIfInBounds_toArray, List.set_cons_zero, List.set_cons_succ]
              refine held_takeW (i := 19) (v := .pointer (some ⟨g, off + i * 4, none⟩)) rfl (by kernel_rfl) (by kernel_rfl) (by kernel_rfl) (fun _ _ _ h => h) rfl (fun W1 hW1 => by go_simp) (s5) ?_
              simp only [Act.put, List.setIfInBounds_toArray, List.set_cons_zero, List.set_cons_succ]
              refine held_takeW (i := 20) (v := .pointer (some ⟨g, off + i * 4, none⟩)) rfl (by kernel_rfl) (by kernel_rfl) (by kernel_rfl) (fun _ _ _ h => h) rfl (fun W1 hW1 => by go_simp) (s5) ?_
              simp only [Act.put, List.setIfInBounds_toArray, List.set_cons_zero, List.set_cons_succ]
              refine held_takeW (i := 21) (v := .int .i64 r.c) rfl (by kernel_rfl) (by kernel_rfl) (by kernel_rfl) (fun _ _ _ h => h) rfl (fun W1 hW1 => exec_load _ _ _ _ rfl rfl (run_loadCell W1 _ _ _ (D0 W1 hW1) (agg_no _ (by kernel_rfl)))) (s5) ?_
              simp only [Act.put, List.setIfInBounds_toArray, List.set_cons_zero, List.set_cons_succ]
              refine held_takeW (i := 23) (v := .pointer (some ⟨q, 0, none⟩)) rfl (by kernel_rfl) (by kernel_rfl) (by kernel_rfl) (fun _ _ _ h => h) rfl (fun W1 hW1 => rfl) (s5) ?_
              simp only [Act.put, List.setIfInBounds_toArray, List.set_cons_zero, List.set_cons_succ]
              refine held_takeW (i := 24) (v := .slice (some ⟨g, off, none⟩) ls.length ca) rfl (by kernel_rfl) (by kernel_rfl) (by kernel_rfl) (fun _ _ _ h => h) rfl (fun W1 hW1 => rfl) (s5) ?_
              simp only [Act.put, List.setIfInBounds_toArray, List.set_cons_zero, List.set_cons_succ]
              refine held_takeW (i := 25) (v := .int .i64 i) rfl (by kernel_rfl) (by kernel_rfl) (by kernel_rfl) (fun _ _ _ h => h) rfl (fun W1 hW1 => rfl) (s5) ?_
              simp only [Act.put, List.setIfInBounds_toArray, List.set_cons_zero, List.set_cons_succ]
              refine held_takeW (i := 26) (v := .pointer (some ⟨g, off + i * 4, none⟩)) rfl (by kernel_rfl) (by kernel_rfl) (by kernel_rfl) (fun _ _ _ h => h) rfl (fun W1 hW1 => by go_simp) (s5) ?_
              simp only [Act.put, List.setIfInBounds_toArray, List.set_cons_zero, List.set_cons_succ]
              refine held_takeW (i := 27) (v := .pointer (some ⟨g, off + i * 4, none⟩)) rfl (by kernel_rfl) (by kernel_rfl) (by kernel_rfl) (fun _ _ _ h => h) rfl (fun W1 hW1 => by go_simp) (s5) ?_
              simp only [Act.put, List.setIfInBounds_toArray, List.set_cons_zero, List.set_cons_succ]
              refine held_takeW (i := 28) (v := .pointer (some ⟨g, off + i * 4, none⟩)) rfl (by kernel_rfl) (by kernel_rfl) (by kernel_rfl) (fun _ _ _ h => h) rfl (fun W1 hW1 => by go_simp) (s5) ?_
              simp only [Act.put, List.setIfInBounds_toArray, List.set_cons_zero, List.set_cons_succ]
              refine held_takeW (i := 29) (v := .int .i64 r.c) rfl (by kernel_rfl) (by kernel_rfl) (by kernel_rfl) (fun _ _ _ h => h) rfl (fun W1 hW1 => exec_load _ _ _ _ rfl rfl (run_loadCell W1 _ _ _ (D0 W1 hW1) (agg_no _ (by kernel_rfl)))) (s5) ?_
              simp only [Act.put, List.setIfInBounds_toArray, List.set_cons_zero, List.set_cons_succ]
              have LP := lifeF hw5 r.c
              have LR := vLife_any w5 q M _ mv5 ms5 hm5 r.c
              refine held_doW (i := 22) (by kernel_rfl) rfl rfl (wp_enter (f := 22) (args := #[.pointer (some ⟨p, 0, none⟩), .int .i64 r.c]) (by go_simp) (LP) ?_)
              rintro e w6 ⟨rfl, rfl⟩
              refine ⟨_, rfl, s5, ?_⟩
              simp only [Act.put, List.setIfInBounds_toArray, List.set_cons_zero, List.set_cons_succ]
              refine held_doW (i := 30) (by kernel_rfl) rfl rfl (wp_enter (f := 27) (args := #[.pointer (some ⟨q, 0, none⟩), .int .i64 r.c]) (by go_simp) (LR) ?_)
              rintro e w6 ⟨rfl, rfl⟩
              refine ⟨_, rfl, s5, ?_⟩
              simp only [Act.put, List.setIfInBounds_toArray, List.set_cons_zero, List.set_cons_succ]
              clear LP LR
              refine held_takeW (i := 31) (v := .bool false) rfl (by kernel_rfl) (by kernel_rfl) (by kernel_rfl) (fun _ _ _ h => h) rfl (fun W1 hW1 => by go_simp) (s5) ?_
              simp only [Act.put, List.setIfInBounds_toArray, List.set_cons_zero, List.set_cons_succ]
              refine held_take (i := 32) (v := .bool false) rfl (by kernel_rfl) (by kernel_rfl) (by kernel_rfl) (fun _ _ _ h => h) rfl (fun W1 hW1 => by go_simp) (s5) ?_
              simp only [Act.put, List.setIfInBounds_toArray, List.set_cons_zero, List.set_cons_succ]
              refine held_take (i := 33) (v := .bool false) rfl (by kernel_rfl) (by kernel_rfl) (by kernel_rfl) (fun _ _ _ h => h) rfl (fun W1 hW1 => by go_simp) (s5) ?_
              simp only [Act.put, List.setIfInBounds_toArray, List.set_cons_zero, List.set_cons_succ]
              have cm5 := hm5.cell
              have ql5 := hm5.ql
              refine wpAnyH_mono (S' := KpS [] w5.heap.size w5) (fun W h => s5.keeps (h.toKeeps) kw5.size (by simp)) _ _ _ _ ?_
              have C5 : ∀ W1, KpS [] w5.heap.size w5 W1 → W1.cell? ⟨q, 0, none⟩ = some mv5 := fun W1 h => h.cell cm5 ql5 (by simp)
              refine held_takeW (i := 34) (v := .pointer (some ⟨p, 0, none⟩)) rfl (by kernel_rfl) (by kernel_rfl) (by kernel_rfl) (fun _ _ _ h => h) rfl (fun W1 hW1 => rfl) (KpS.refl _ _ _) ?_
              simp only [Act.put, List.setIfInBounds_toArray, List.set_cons_zero, List.set_cons_succ]
              refine held_takeW (i := 37) (v := .pointer (some ⟨q, 0, none⟩)) rfl (by kernel_rfl) (by kernel_rfl) (by kernel_rfl) (fun _ _ _ h => h) rfl (fun W1 hW1 => rfl) (KpS.refl _ _ _) ?_
              simp only [Act.put, List.setIfInBounds_toArray, List.set_cons_zero, List.set_cons_succ]
              refine held_takeW (i := 38) (v := .pointer (some ⟨q, 0, none⟩)) rfl (by kernel_rfl) (by kernel_rfl) (by kernel_rfl) (fun _ _ _ h => h) rfl (fun W1 hW1 => by go_simp) (KpS.refl _ _ _) ?_
              simp only [Act.put, List.setIfInBounds_toArray, List.set_cons_zero, List.set_cons_succ]
              refine held_takeW (i := 39) (v := .pointer (some ⟨q, 0, none⟩)) rfl (by kernel_rfl) (by kernel_rfl) (by kernel_rfl) (fun _ _ _ h => h) rfl (fun W1 hW1 => by go_simp) (KpS.refl _ _ _) ?_
              simp only [Act.put, List.setIfInBounds_toArray, List.set_cons_zero, List.set_cons_succ]
              refine held_takeW (i := 40) (v := mv5) rfl (by kernel_rfl) (by kernel_rfl) (by kernel_rfl) (fun _ _ _ h => h) rfl (fun W1 hW1 => exec_load _ _ _ _ rfl rfl (run_loadCell W1 _ _ _ (C5 W1 hW1) (agg_no _ (by kernel_rfl)))) (KpS.refl _ _ _) ?_
              simp only [Act.put, List.setIfInBounds_toArray, List.set_cons_zero, List.set_cons_succ]
              refine held_doW (i := 35) (by kernel_rfl) rfl rfl (wp_enter (f := 30) (args := #[.pointer (some ⟨p, 0, none⟩)]) (by go_simp) (rowsF hw5) ?_)
              rintro e w7 ⟨a7, c7, rs7, rfl, r7, hc7, k7⟩
              have s7 : KpS [] w5.heap.size w5 w7 := (KpS.refl _ _ _).keeps k7 (Nat.le_refl _) (by simp)
              refine ⟨_, rfl, s7, ?_⟩
              simp only [Act.put, List.setIfInBounds_toArray, List.set_cons_zero, List.set_cons_succ]
              have f7 : rs7.length ≤ 4 := by have h1 := congrArg List.length hc7; have h2 := refLk_length (doneT T r.c r.l r.s r.bs) 4; simp [refL] at h1; omega
              have lt7 : ∀ b ∈ M, b < w7.heap.size := fun b hb => Nat.lt_of_lt_of_le (hw5.lt b hb) k7.size
              refine held_doW (i := 36) (by kernel_rfl) rfl rfl (wp_enter (f := 29) (args := #[.slice a7 rs7.length c7]) (by go_simp) (j8Model_any w7 M lt7 _ rs7 r7 (by omega)) ?_)
              rintro e w8 ⟨a8, c8, rfl, r8, k8⟩
              have s8 : KpS [] w5.heap.size w5 w8 := s7.keeps k8 k7.size (by simp)
              refine ⟨_, rfl, s8, ?_⟩
              simp only [Act.put, List.setIfInBounds_toArray, List.set_cons_zero, List.set_cons_succ]
              have k58 := k7.trans k8
              refine held_doW (i := 41) (by kernel_rfl) rfl rfl (wp_enter (f := 28) (args := #[.slice a8 rs7.length c8, mv5]) (by go_simp) (vSameRows_any w8 M M _ _ rs7 ms5 r8 (hm5.rows.later k58) (by omega) (hc7.trans hm5.con.symm)) ?_)
              rintro e w9 ⟨rfl, n9, rfl⟩
              have s9 : KpS [] w5.heap.size w5 (w8.drewN n9) := s8.keeps ((Keeps.refl [] w8).drewN n9) k58.size (by simp)
              refine ⟨_, rfl, s9, ?_⟩
              simp only [Act.put, List.setIfInBounds_toArray, List.set_cons_zero, List.set_cons_succ]
              refine held_takeW (i := 42) (v := .bool false) rfl (by kernel_rfl) (by kernel_rfl) (by kernel_rfl) (fun _ _ _ h => h) rfl (fun W1 hW1 => by go_simp) (s9) ?_
              simp only [Act.put, List.setIfInBounds_toArray, List.set_cons_zero, List.set_cons_succ]
              refine held_take (i := 43) (v := .bool false) rfl (by kernel_rfl) (by kernel_rfl) (by kernel_rfl) (fun _ _ _ h => h) rfl (fun W1 hW1 => by go_simp) (s9) ?_
              simp only [Act.put, List.setIfInBounds_toArray, List.set_cons_zero, List.set_cons_succ]
              refine wpAnyH_done (by kernel_rfl) ?_ _
              have K59 := hid (k58.drewN n9)
              have KW5 := hid kw5
              have HW5 := hid hw5
              have HM5 := hid hm5
              clear D0 D1 D2 D3 RD s5 k5 kw5 hw5 hm5 cm5 ql5 C5 r7 k7 s7 f7 lt7 r8 k8 s8 k58 s9 hc7
              generalize w8.drewN n9 = wz at K59 ⊢
              go_wp2_with fail
              go_roundw
              case rel => exact ⟨i + 1, _, mv5, ms5, by omega, by go_num, HW5.out.later K59.out, HM5.out.later K59.out, (KX.out.news KW5.out (by simpa using NQ.out)).trans K59.out⟩
              case measure => simp [intOf]; omega
            · have KF := hid (Keeps.refl [] wr)
              go_wp2_with fail
              have KX := hid (KK.out.trans KF.out)
              have HWX := hid (HW.out.later KF.out)
              have HMX := hid (HMr.out.later KF.out)
              have rW := RIN.out.keep KX.out
              have RR := hid rW.at4
              have D3W := hid rW.d3
              have RROW := hid rW.row
              have GL := hid rW.gl
              have FIT := hid rW.fit
              clear rW
              refine wp_region_any (by kernel_rfl) (wpAny_of_late (late := [12, 13]) (S := KpS [] wr.heap.size wr.drew) _ _ _ _ ?_)
              change wpAnyT _ _ _ _ _ _ _ _ _ wr.drew
              have D0 : ∀ W1, KpS [] wr.heap.size wr.drew W1 → W1.cell? ⟨g, off + i * 4, none⟩ = some (.int .i64 r.c) := fun W1 h => h.cell (by rw [World.cell?_drew]; exact RR.out.c0) GL.out (by simp)
              have D1 : ∀ W1, KpS [] wr.heap.size wr.drew W1 → W1.cell? ⟨g, off + i * 4 + 1, none⟩ = some (.int .i64 r.l) := fun W1 h => h.cell (by rw [World.cell?_drew]; exact RR.out.c1) GL.out (by simp)
              have D2 : ∀ W1, KpS [] wr.heap.size wr.drew W1 → W1.cell? ⟨g, off + i * 4 + 2, none⟩ = some (.int .i64 r.s) := fun W1 h => h.cell (by rw [World.cell?_drew]; exact RR.out.c2) GL.out (by simp)
              have D3 : ∀ W1, KpS [] wr.heap.size wr.drew W1 → W1.cell? ⟨g, off + i * 4 + 3, none⟩ = some (.slice ra r.bs.length rc) := fun W1 h => h.cell (by rw [World.cell?_drew]; exact D3W.out) GL.out (by simp)
              refine late_take (i := 0) (v := .pointer (some ⟨p, 0, none⟩)) rfl (by kernel_rfl) (by kernel_rfl) (by kernel_rfl) (by kernel_rfl) (by kernel_rfl) (fun _ _ _ h => h) rfl (fun W1 hW1 => rfl) (KpS.refl _ _ _) ?_
              simp only [Act.put, List.setIfInBounds_toArray, List.set_cons_zero, List.set_cons_succ]
              refine late_take (i := 1) (v := .slice (some ⟨g, off, none⟩) ls.length ca) rfl (by kernel_rfl) (by kernel_rfl) (by kernel_rfl) (by kernel_rfl) (by kernel_rfl) (fun _ _ _ h => h) rfl (fun W1 hW1 => rfl) (KpS.refl _ _ _) ?_
              simp only [Act.put, List.setIfInBounds_toArray, List.set_cons_zero, List.set_cons_succ]
              refine late_take (i := 2) (v := .int .i64 i) rfl (by kernel_rfl) (by kernel_rfl) (by kernel_rfl) (by kernel_rfl) (by kernel_rfl) (fun _ _ _ h => h) rfl (fun W1 hW1 => rfl) (KpS.refl _ _ _) ?_
              simp only [Act.put, List.setIfInBounds_toArray, List.set_cons_zero, List.set_cons_succ]
              refine late_take (i := 3) (v := .pointer (some ⟨g, off + i * 4, none⟩)) rfl (by kernel_rfl) (by kernel_rfl) (by kernel_rfl) (by kernel_rfl) (by kernel_rfl) (fun _ _ _ h => h) rfl (fun W1 hW1 => by go_simp) (KpS.refl _ _ _) ?_
              simp only [Act.put, List.setIfInBounds_toArray, List.set_cons_zero, List.set_cons_succ]
              refine late_take (i := 4) (v := .pointer (some ⟨g, off + i * 4, none⟩)) rfl (by kernel_rfl) (by kernel_rfl) (by kernel_rfl) (by kernel_rfl) (by kernel_rfl) (fun _ _ _ h => h) rfl (fun W1 hW1 => by go_simp) (KpS.refl _ _ _) ?_
              simp only [Act.put, List.setIfInBounds_toArray, List.set_cons_zero, List.set_cons_succ]
              refine late_take (i := 5) (v := .agg #[.int .i64 r.c, .int .i64 r.l, .int .i64 r.s]) rfl (by kernel_rfl) (by kernel_rfl) (by kernel_rfl) (by kernel_rfl) (by kernel_rfl) (fun _ _ _ h => h) rfl (fun W1 hW1 => exec_load _ _ _ _ rfl rfl (loadV8 (D0 W1 hW1) (D1 W1 hW1) (D2 W1 hW1))) (KpS.refl _ _ _) ?_
              simp only [Act.put, List.setIfInBounds_toArray, List.set_cons_zero, List.set_cons_succ]
              refine late_take (i := 7) (v := .slice (some ⟨g, off, none⟩) ls.length ca) rfl (by kernel_rfl) (by kernel_rfl) (by kernel_rfl) (by kernel_rfl) (by kernel_rfl) (fun _ _ _ h => h) rfl (fun W1 hW1 => rfl) (KpS.refl _ _ _) ?_
              simp only [Act.put, List.setIfInBounds_toArray, List.set_cons_zero, List.set_cons_succ]
              refine late_take (i := 8) (v := .int .i64 i) rfl (by kernel_rfl) (by kernel_rfl) (by kernel_rfl) (by kernel_rfl) (by kernel_rfl) (fun _ _ _ h => h) rfl (fun W1 hW1 => rfl) (KpS.refl _ _ _) ?_
              simp only [Act.put, List.setIfInBounds_toArray, List.set_cons_zero, List.set_cons_succ]
              refine late_take (i := 9) (v := .pointer (some ⟨g, off + i * 4, none⟩)) rfl (by kernel_rfl) (by kernel_rfl) (by kernel_rfl) (by kernel_rfl) (by kernel_rfl) (fun _ _ _ h => h) rfl (fun W1 hW1 => by go_simp) (KpS.refl _ _ _) ?_
              simp only [Act.put, List.setIfInBounds_toArray, List.set_cons_zero, List.set_cons_succ]
              refine late_take (i := 10) (v := .pointer (some ⟨g, off + i * 4 + 3, none⟩)) rfl (by kernel_rfl) (by kernel_rfl) (by kernel_rfl) (by kernel_rfl) (by kernel_rfl) (fun _ _ _ h => h) rfl (fun W1 hW1 => by go_simp) (KpS.refl _ _ _) ?_
              simp only [Act.put, List.setIfInBounds_toArray, List.set_cons_zero, List.set_cons_succ]
              refine late_take (i := 11) (v := .slice ra r.bs.length rc) rfl (by kernel_rfl) (by kernel_rfl) (by kernel_rfl) (by kernel_rfl) (by kernel_rfl) (fun _ _ _ h => h) rfl (fun W1 hW1 => exec_load _ _ _ _ rfl rfl (run_loadCell W1 _ _ _ (D3 W1 hW1) (agg_no _ (by kernel_rfl)))) (KpS.refl _ _ _) ?_
              simp only [Act.put, List.setIfInBounds_toArray, List.set_cons_zero, List.set_cons_succ]
              refine late_do (i := 6) (by kernel_rfl) rfl rfl (wp_enter (f := 24) (args := #[.agg #[.int .i64 r.c, .int .i64 r.l, .int .i64 r.s]]) (by go_simp) (ST.out wr.drew) ?_)
              rintro e w3 ⟨rfl, k3⟩
              have sC : KpS [] wr.heap.size wr.drew w3 := (KpS.refl _ _ _).keeps k3 (by simp) (by simp)
              refine ⟨_, rfl, Or.inr sC, ?_⟩
              simp only [Act.put, List.setIfInBounds_toArray, List.set_cons_zero, List.set_cons_succ]
              have kD : Keeps [] wr w3 := (Keeps.refl [] wr).drew.trans k3
              have DN := doneF (HWX.out.later kD) r.c r.l r.s ra rc _ r.bs rfl (RROW.out.keep kD (by intro _ _ _ _ _; simp)) FIT.out
              rw [DA.out] at DN
              unfold stV at DN
              refine late_do (i := 12) (by kernel_rfl) rfl rfl (wp_enter (f := 21) (args := #[.pointer (some ⟨p, 0, none⟩), .agg #[.int .i64 r.c, .int .i64 r.l, .int .i64 r.s], .slice ra r.bs.length rc]) (by go_simp) (DN) ?_)
              rintro e w4 ⟨rfl, h4, k4⟩
              refine ⟨_, rfl, Or.inl rfl, ?_⟩
              simp only [Act.put, List.setIfInBounds_toArray, List.set_cons_zero, List.set_cons_succ]
              refine late_do (i := 13) (by kernel_rfl) rfl rfl (wp_value (w' := w4) (v := .int .i64 dA) (by go_simp) ?_)
              refine ⟨Or.inl rfl, ?_⟩
              simp only [Act.put, List.setIfInBounds_toArray, List.set_cons_zero, List.set_cons_succ]
              refine wpAnyT_done (by kernel_rfl) ?_ _
              have H4 := hid h4
              have K4 : Hid (Keeps [p] wr w4) := hid ((kD.mono (S' := [p]) (by simp)).trans k4)
              clear D0 D1 D2 D3 sC kD h4 k4 DN k3
              have KX := hid (KX.out.news K4.out (by simpa using HP.out))
              have HW2 := hid H4.out
              have HMr := hid (HMX.out.keep K4.out hpM qp)
              have rW := RIN.out.keep KX.out
              have RR := hid rW.at4
              have D3W := hid rW.d3
              have RROW := hid rW.row
              have GL := hid rW.gl
              clear rW
              go_wp2_with fail
              refine wp_region_any (by kernel_rfl) (wpAny_of_held (S := KpS [q] w4.heap.size w4.drew) _ _ _ _ ?_)
              change wpAnyH _ _ _ _ _ _ _ _ w4.drew
              have D0 : ∀ W1, KpS [q] w4.heap.size w4.drew W1 → W1.cell? ⟨g, off + i * 4, none⟩ = some (.int .i64 r.c) := fun W1 h => h.cell (by rw [World.cell?_drew]; exact RR.out.c0) GL.out gq
              have D1 : ∀ W1, KpS [q] w4.heap.size w4.drew W1 → W1.cell? ⟨g, off + i * 4 + 1, none⟩ = some (.int .i64 r.l) := fun W1 h => h.cell (by rw [World.cell?_drew]; exact RR.out.c1) GL.out gq
              have D2 : ∀ W1, KpS [q] w4.heap.size w4.drew W1 → W1.cell? ⟨g, off + i * 4 + 2, none⟩ = some (.int .i64 r.s) := fun W1 h => h.cell (by rw [World.cell?_drew]; exact RR.out.c2) GL.out gq
              have D3 : ∀ W1, KpS [q] w4.heap.size w4.drew W1 → W1.cell? ⟨g, off + i * 4 + 3, none⟩ = some (.slice ra r.bs.length rc) := fun W1 h => h.cell (by rw [World.cell?_drew]; exact D3W.out) GL.out gq
              refine held_take (i := 0) (v := .int .i64 dA) rfl (by kernel_rfl) (by kernel_rfl) (by kernel_rfl) (fun _ _ _ h => h) rfl (fun W1 hW1 => rfl) (KpS.refl _ _ _) ?_
              simp only [Act.put, List.setIfInBounds_toArray, List.set_cons_zero, List.set_cons_succ]
              refine held_take (i := 1) (v := .pointer (some ⟨q, 0, none⟩)) rfl (by kernel_rfl) (by kernel_rfl) (by kernel_rfl) (fun _ _ _ h => h) rfl (fun W1 hW1 => rfl) (KpS.refl _ _ _) ?_
              simp only [Act.put, List.setIfInBounds_toArray, List.set_cons_zero, List.set_cons_succ]
              refine held_take (i := 2) (v := .slice (some ⟨g, off, none⟩) ls.length ca) rfl (by kernel_rfl) (by kernel_rfl) (by kernel_rfl) (fun _ _ _ h => h) rfl (fun W1 hW1 => rfl) (KpS.refl _ _ _) ?_
              simp only [Act.put, List.setIfInBounds_toArray, List.set_cons_zero, List.set_cons_succ]
              refine held_take (i := 3) (v := .int .i64 i) rfl (by kernel_rfl) (by kernel_rfl) (by kernel_rfl) (fun _ _ _ h => h) rfl (fun W1 hW1 => rfl) (KpS.refl _ _ _) ?_
              simp only [Act.put, List.setIfInBounds_toArray, List.set_cons_zero, List.set_cons_succ]
              refine held_take (i := 4) (v := .pointer (some ⟨g, off + i * 4, none⟩)) rfl (by kernel_rfl) (by kernel_rfl) (by kernel_rfl) (fun _ _ _ h => h) rfl (fun W1 hW1 => by go_simp) (KpS.refl _ _ _) ?_
              simp only [Act.put, List.setIfInBounds_toArray, List.set_cons_zero, List.set_cons_succ]
              refine held_take (i := 5) (v := .pointer (some ⟨g, off + i * 4, none⟩)) rfl (by kernel_rfl) (by kernel_rfl) (by kernel_rfl) (fun _ _ _ h => h) rfl (fun W1 hW1 => by go_simp) (KpS.refl _ _ _) ?_
              simp only [Act.put, List.setIfInBounds_toArray, List.set_cons_zero, List.set_cons_succ]
              refine held_take (i := 6) (v := .agg #[.int .i64 r.c, .int .i64 r.l, .int .i64 r.s]) rfl (by kernel_rfl) (by kernel_rfl) (by kernel_rfl) (fun _ _ _ h => h) rfl (fun W1 hW1 => exec_load _ _ _ _ rfl rfl (loadV8 (D0 W1 hW1) (D1 W1 hW1) (D2 W1 hW1))) (KpS.refl _ _ _) ?_
              simp only [Act.put, List.setIfInBounds_toArray, List.set_cons_zero, List.set_cons_succ]
              refine held_take (i := 7) (v := .slice (some ⟨g, off, none⟩) ls.length ca) rfl (by kernel_rfl) (by kernel_rfl) (by kernel_rfl) (fun _ _ _ h => h) rfl (fun W1 hW1 => rfl) (KpS.refl _ _ _) ?_
              simp only [Act.put, List.setIfInBounds_toArray, List.set_cons_zero, List.set_cons_succ]
              refine held_take (i := 8) (v := .int .i64 i) rfl (by kernel_rfl) (by kernel_rfl) (by kernel_rfl) (fun _ _ _ h => h) rfl (fun W1 hW1 => rfl) (KpS.refl _ _ _) ?_
              simp only [Act.put, List.setIfInBounds_toArray, List.set_cons_zero, List.set_cons_succ]
              refine held_take (i := 9) (v := .pointer (some ⟨g, off + i * 4, none⟩)) rfl (by kernel_rfl) (by kernel_rfl) (by kernel_rfl) (fun _ _ _ h => h) rfl (fun W1 hW1 => by go_simp) (KpS.refl _ _ _) ?_
              simp only [Act.put, List.setIfInBounds_toArray, List.set_cons_zero, List.set_cons_succ]
              refine held_take (i := 10) (v := .pointer (some ⟨g, off + i * 4 + 3, none⟩)) rfl (by kernel_rfl) (by kernel_rfl) (by kernel_rfl) (fun _ _ _ h => h) rfl (fun W1 hW1 => by go_simp) (KpS.refl _ _ _) ?_
              simp only [Act.put, List.setIfInBounds_toArray, List.set_cons_zero, List.set_cons_succ]
              refine held_take (i := 11) (v := .slice ra r.bs.length rc) rfl (by kernel_rfl) (by kernel_rfl) (by kernel_rfl) (fun _ _ _ h => h) rfl (fun W1 hW1 => exec_load _ _ _ _ rfl rfl (run_loadCell W1 _ _ _ (D3 W1 hW1) (agg_no _ (by kernel_rfl)))) (KpS.refl _ _ _) ?_
              simp only [Act.put, List.setIfInBounds_toArray, List.set_cons_zero, List.set_cons_succ]
              have RD := vDone_any w4.drew q M T mv ms (HMr.out.later (Keeps.refl [] w4).drew) r.c r.l r.s ra rc r.bs (RROW.out.keep ((Keeps.refl [] w4).drew) (by intro _ _ _ _ _; simp)) FIT.out
              unfold stV at RD
              rw [DA.out] at RD
              refine held_do (i := 12) (by kernel_rfl) rfl rfl (wp_enter (f := 26) (args := #[.pointer (some ⟨q, 0, none⟩), .agg #[.int .i64 r.c, .int .i64 r.l, .int .i64 r.s], .slice ra r.bs.length rc]) (by go_simp) (RD) ?_)
              rintro e w5 ⟨rfl, ⟨mv5, ms5, hm5⟩, k5⟩
              have s5 : KpS [q] w4.heap.size w4.drew w5 := (KpS.refl _ _ _).keeps k5 (Nat.le_refl _) (fun j hj _ => hj)
              refine ⟨_, rfl, s5, ?_⟩
              simp only [Act.put, List.setIfInBounds_toArray, List.set_cons_zero, List.set_cons_succ]
              refine held_take (i := 13) (v := .bool false) rfl (by kernel_rfl) (by kernel_rfl) (by kernel_rfl) (fun _ _ _ h => h) rfl (fun W1 hW1 => by go_simp) (s5) ?_
              simp only [Act.put, List.setIfInBounds_toArray, List.set_cons_zero, List.set_cons_succ]
              refine held_take (i := 14) (v := .bool false) rfl (by kernel_rfl) (by kernel_rfl) (by kernel_rfl) (fun _ _ _ h => h) rfl (fun W1 hW1 => by go_simp) (s5) ?_
              simp only [Act.put, List.setIfInBounds_toArray, List.set_cons_zero, List.set_cons_succ]
              have kw5 : Keeps [q] w4 w5 := ((Keeps.refl [q] w4).drew).trans k5
              have hw5 := HW2.out.keep kw5 hqM pq
              refine held_takeW (i := 15) (v := .pointer (some ⟨p, 0, none⟩)) rfl (by kernel_rfl) (by kernel_rfl) (by kernel_rfl) (fun _ _ _ h => h) rfl (fun W1 hW1 => rfl) (s5) ?_
              simp only [Act.put, List.setIfInBounds_toArray, List.set_cons_zero, List.set_cons_succ]
              refine held_takeW (i := 16) (v := .slice (some ⟨g, off, none⟩) ls.length ca) rfl (by kernel_rfl) (by kernel_rfl) (by kernel_rfl) (fun _ _ _ h => h) rfl (fun W1 hW1 => rfl) (s5) ?_
              simp only [Act.put, List.setIfInBounds_toArray, List.set_cons_zero, List.set_cons_succ]
              refine held_takeW (i := 17) (v := .int .i64 i) rfl (by kernel_rfl) (by kernel_rfl) (by kernel_rfl) (fun _ _ _ h => h) rfl (fun W1 hW1 => rfl) (s5) ?_
              simp only [Act.put, List.setIfInBounds_toArray, List.set_cons_zero, List.set_cons_succ]
              refine held_takeW (i := 18) (v := .pointer (some ⟨g, off + i * 4, none⟩)) rfl (by kernel_rfl) (by kernel_rfl) (by kernel_rfl) (fun _ _ _ h => h) rfl (fun W1 hW1 => by go_simp) (s5) ?_
              simp only [Act.put, List.setIfInBounds_toArray, List.set_cons_zero, List.set_cons_succ]
              refine held_takeW (i := 19) (v := .pointer (some ⟨g, off + i * 4, none⟩)) rfl (by kernel_rfl) (by kernel_rfl) (by kernel_rfl) (fun _ _ _ h => h) rfl (fun W1 hW1 => by go_simp) (s5) ?_
              simp only [Act.put, List.setIfInBounds_toArray, List.set_cons_zero, List.set_cons_succ]
              refine held_takeW (i := 20) (v := .pointer (some ⟨g, off + i * 4, none⟩)) rfl (by kernel_rfl) (by kernel_rfl) (by kernel_rfl) (fun _ _ _ h => h) rfl (fun W1 hW1 => by go_simp) (s5) ?_
              simp only [Act.put, List.setIfInBounds_toArray, List.set_cons_zero, List.set_cons_succ]
              refine held_takeW (i := 21) (v := .int .i64 r.c) rfl (by kernel_rfl) (by kernel_rfl) (by kernel_rfl) (fun _ _ _ h => h) rfl (fun W1 hW1 => exec_load _ _ _ _ rfl rfl (run_loadCell W1 _ _ _ (D0 W1 hW1) (agg_no _ (by kernel_rfl)))) (s5) ?_
              simp only [Act.put, List.setIfInBounds_toArray, List.set_cons_zero, List.set_cons_succ]
              refine held_takeW (i := 23) (v := .pointer (some ⟨q, 0, none⟩)) rfl (by kernel_rfl) (by kernel_rfl) (by kernel_rfl) (fun _ _ _ h => h) rfl (fun W1 hW1 => rfl) (s5) ?_
              simp only [Act.put, List.setIfInBounds_toArray, List.set_cons_zero, List.set_cons_succ]
              refine held_takeW (i := 24) (v := .slice (some ⟨g, off, none⟩) ls.length ca) rfl (by kernel_rfl) (by kernel_rfl) (by kernel_rfl) (fun _ _ _ h => h) rfl (fun W1 hW1 => rfl) (s5) ?_
              simp only [Act.put, List.setIfInBounds_toArray, List.set_cons_zero, List.set_cons_succ]
              refine held_takeW (i := 25) (v := .int .i64 i) rfl (by kernel_rfl) (by kernel_rfl) (by kernel_rfl) (fun _ _ _ h => h) rfl (fun W1 hW1 => rfl) (s5) ?_
              simp only [Act.put, List.setIfInBounds_toArray, List.set_cons_zero, List.set_cons_succ]
              refine held_takeW (i := 26) (v := .pointer (some ⟨g, off + i * 4, none⟩)) rfl (by kernel_rfl) (by kernel_rfl) (by kernel_rfl) (fun _ _ _ h => h) rfl (fun W1 hW1 => by go_simp) (s5) ?_
              simp only [Act.put, List.setIfInBounds_toArray, List.set_cons_zero, List.set_cons_succ]
              refine held_takeW (i := 27) (v := .pointer (some ⟨g, off + i * 4, none⟩)) rfl (by kernel_rfl) (by kernel_rfl) (by kernel_rfl) (fun _ _ _ h => h) rfl (fun W1 hW1 => by go_simp) (s5) ?_
              simp only [Act.put, List.setIfInBounds_toArray, List.set_cons_zero, List.set_cons_succ]
              refine held_takeW (i := 28) (v := .pointer (some ⟨g, off + i * 4, none⟩)) rfl (by kernel_rfl) (by kernel_rfl) (by kernel_rfl) (fun _ _ _ h => h) rfl (fun W1 hW1 => by go_simp) (s5) ?_
              simp only [Act.put, List.setIfInBounds_toArray, List.set_cons_zero, List.set_cons_succ]
              refine held_takeW (i := 29) (v := .int .i64 r.c) rfl (by kernel_rfl) (by kernel_rfl) (by kernel_rfl) (fun _ _ _ h => h) rfl (fun W1 hW1 => exec_load _ _ _ _ rfl rfl (run_loadCell W1 _ _ _ (D0 W1 hW1) (agg_no _ (by kernel_rfl)))) (s5) ?_
              simp only [Act.put, List.setIfInBounds_toArray, List.set_cons_zero, List.set_cons_succ]
              have LP := lifeF hw5 r.c
              have LR := vLife_any w5 q M _ mv5 ms5 hm5 r.c
              refine held_doW (i := 22) (by kernel_rfl) rfl rfl (wp_enter (f := 22) (args := #[.pointer (some ⟨p, 0, none⟩), .int .i64 r.c]) (by go_simp) (LP) ?_)
              rintro e w6 ⟨rfl, rfl⟩
              refine ⟨_, rfl, s5, ?_⟩
              simp only [Act.put, List.setIfInBounds_toArray, List.set_cons_zero, List.set_cons_succ]
              refine held_doW (i := 30) (by kernel_rfl) rfl rfl (wp_enter (f := 27) (args := #[.pointer (some ⟨q, 0, none⟩), .int .i64 r.c]) (by go_simp) (LR) ?_)
              rintro e w6 ⟨rfl, rfl⟩
              refine ⟨_, rfl, s5, ?_⟩
              simp only [Act.put, List.setIfInBounds_toArray, List.set_cons_zero, List.set_cons_succ]
              clear LP LR
              refine held_takeW (i := 31) (v := .bool false) rfl (by kernel_rfl) (by kernel_rfl) (by kernel_rfl) (fun _ _ _ h => h) rfl (fun W1 hW1 => by go_simp) (s5) ?_
              simp only [Act.put, List.setIfInBounds_toArray, List.set_cons_zero, List.set_cons_succ]
              refine held_take (i := 32) (v := .bool false) rfl (by kernel_rfl) (by kernel_rfl) (by kernel_rfl) (fun _ _ _ h => h) rfl (fun W1 hW1 => by go_simp) (s5) ?_
              simp only [Act.put, List.setIfInBounds_toArray, List.set_cons_zero, List.set_cons_succ]
              refine held_take (i := 33) (v := .bool false) rfl (by kernel_rfl) (by kernel_rfl) (by kernel_rfl) (fun _ _ _ h => h) rfl (fun W1 hW1 => by go_simp) (s5) ?_
              simp only [Act.put, List.setIfInBounds_toArray, List.set_cons_zero, List.set_cons_succ]
              have cm5 := hm5.cell
              have ql5 := hm5.ql
              refine wpAnyH_mono (S' := KpS [] w5.heap.size w5) (fun W h => s5.keeps (h.toKeeps) kw5.size (by simp)) _ _ _ _ ?_
              have C5 : ∀ W1, KpS [] w5.heap.size w5 W1 → W1.cell? ⟨q, 0, none⟩ = some mv5 := fun W1 h => h.cell cm5 ql5 (by simp)
              refine held_takeW (i := 34) (v := .pointer (some ⟨p, 0, none⟩)) rfl (by kernel_rfl) (by kernel_rfl) (by kernel_rfl) (fun _ _ _ h => h) rfl (fun W1 hW1 => rfl) (KpS.refl _ _ _) ?_
              simp only [Act.put, List.setIfInBounds_toArray, List.set_cons_zero, List.set_cons_succ]
              refine held_takeW (i := 37) (v := .pointer (some ⟨q, 0, none⟩)) rfl (by kernel_rfl) (by kernel_rfl) (by kernel_rfl) (fun _ _ _ h => h) rfl (fun W1 hW1 => rfl) (KpS.refl _ _ _) ?_
              simp only [Act.put, List.setIfInBounds_toArray, List.set_cons_zero, List.set_cons_succ]
              refine held_takeW (i := 38) (v := .pointer (some ⟨q, 0, none⟩)) rfl (by kernel_rfl) (by kernel_rfl) (by kernel_rfl) (fun _ _ _ h => h) rfl (fun W1 hW1 => by go_simp) (KpS.refl _ _ _) ?_
              simp only [Act.put, List.setIfInBounds_toArray, List.set_cons_zero, List.set_cons_succ]
              refine held_takeW (i := 39) (v := .pointer (some ⟨q, 0, none⟩)) rfl (by kernel_rfl) (by kernel_rfl) (by kernel_rfl) (fun _ _ _ h => h) rfl (fun W1 hW1 => by go_simp) (KpS.refl _ _ _) ?_
              simp only [Act.put, List.setIfInBounds_toArray, List.set_cons_zero, List.set_cons_succ]
              refine held_takeW (i := 40) (v := mv5) rfl (by kernel_rfl) (by kernel_rfl) (by kernel_rfl) (fun _ _ _ h => h) rfl (fun W1 hW1 => exec_load _ _ _ _ rfl rfl (run_loadCell W1 _ _ _ (C5 W1 hW1) (agg_no _ (by kernel_rfl)))) (KpS.refl _ _ _) ?_
              simp only [Act.put, List.setIfInBounds_toArray, List.set_cons_zero, List.set_cons_succ]
              refine held_doW (i := 35) (by kernel_rfl) rfl rfl (wp_enter (f := 30) (args := #[.pointer (some ⟨p, 0, none⟩)]) (by go_simp) (rowsF hw5) ?_)
              rintro e w7 ⟨a7, c7, rs7, rfl, r7, hc7, k7⟩
              have s7 : KpS [] w5.heap.size w5 w7 := (KpS.refl _ _ _).keeps k7 (Nat.le_refl _) (by simp)
              refine ⟨_, rfl, s7, ?_⟩
              simp only [Act.put, List.setIfInBounds_toArray, List.set_cons_zero, List.set_cons_succ]
              have f7 : rs7.length ≤ 4 := by have h1 := congrArg List.length hc7; have h2 := refLk_length (doneT T r.c r.l r.s r.bs) 4; simp [refL] at h1; omega
              have lt7 : ∀ b ∈ M, b < w7.heap.size := fun b hb => Nat.lt_of_lt_of_le (hw5.lt b hb) k7.size
              refine held_doW (i := 36) (by kernel_rfl) rfl rfl (wp_enter (f := 29) (args := #[.slice a7 rs7.length c7]) (by go_simp) (j8Model_any w7 M lt7 _ rs7 r7 (by omega)) ?_)
              rintro e w8 ⟨a8, c8, rfl, r8, k8⟩
              have s8 : KpS [] w5.heap.size w5 w8 := s7.keeps k8 k7.size (by simp)
              refine ⟨_, rfl, s8, ?_⟩
              simp only [Act.put, List.setIfInBounds_toArray, List.set_cons_zero, List.set_cons_succ]
              have k58 := k7.trans k8
              refine held_doW (i := 41) (by kernel_rfl) rfl rfl (wp_enter (f := 28) (args := #[.slice a8 rs7.length c8, mv5]) (by go_simp) (vSameRows_any w8 M M _ _ rs7 ms5 r8 (hm5.rows.later k58) (by omega) (hc7.trans hm5.con.symm)) ?_)
              rintro e w9 ⟨rfl, n9, rfl⟩
              have s9 : KpS [] w5.heap.size w5 (w8.drewN n9) := s8.keeps ((Keeps.refl [] w8).drewN n9) k58.size (by simp)
              refine ⟨_, rfl, s9, ?_⟩
              simp only [Act.put, List.setIfInBounds_toArray, List.set_cons_zero, List.set_cons_succ]
              refine held_takeW (i := 42) (v := .bool false) rfl (by kernel_rfl) (by kernel_rfl) (by kernel_rfl) (fun _ _ _ h => h) rfl (fun W1 hW1 => by go_simp) (s9) ?_
              simp only [Act.put, List.setIfInBounds_toArray, List.set_cons_zero, List.set_cons_succ]
              refine held_take (i := 43) (v := .bool false) rfl (by kernel_rfl) (by kernel_rfl) (by kernel_rfl) (fun _ _ _ h => h) rfl (fun W1 hW1 => by go_simp) (s9) ?_
              simp only [Act.put, List.setIfInBounds_toArray, List.set_cons_zero, List.set_cons_succ]
              refine wpAnyH_done (by kernel_rfl) ?_ _
              have K59 := hid (k58.drewN n9)
              have KW5 := hid kw5
              have HW5 := hid hw5
              have HM5 := hid hm5
              clear D0 D1 D2 D3 RD s5 k5 kw5 hw5 hm5 cm5 ql5 C5 r7 k7 s7 f7 lt7 r8 k8 s8 k58 s9 hc7
              generalize w8.drewN n9 = wz at K59 ⊢
              go_wp2_with fail
              go_roundw
              case rel => exact ⟨i + 1, _, mv5, ms5, by omega, by go_num, HW5.out.later K59.out, HM5.out.later K59.out, (KX.out.news KW5.out (by simpa using NQ.out)).trans K59.out⟩
              case measure => simp [intOf]; omega
          · obtain rfl : i = ls.length := by omega
            clear hlt
            go_wp2_with fail
            have RR0 := hid ((HY.out.keep KK.out).rws KS.out.2)
            refine (j8Rows_any wr [] (by simp) _ rw RR0.out (by omega)).mono ?_
            rintro e w3 ⟨a3, c3, rfl, r3, k3⟩
            have R3 := hid r3
            have KW3 := hid (KK.out.trans k3)
            clear r3 k3
            go_wp2_with fail
            refine (nLoad_any w3 [] (by simp) _ rw R3.out (by omega)).mono ?_
            have RL := fun w4 (k4 : Keeps [] w3 w4) => vLoad_any w4 [] (by simp) _ rw ((HY.out.keep (KW3.out.trans k4)).rws KS.out.2) (by omega)
            rintro e w4 (⟨hn, rfl, k4⟩ | ⟨T4, p4, hs, hp4, rfl, h4, k4⟩)
            · have RL4 := RL w4 k4
              rw [hn] at RL4
              have KW4 := hid (KW3.out.trans k4)
              clear RL k4
              go_wp2_with fail
              refine RL4.mono ?_
              rintro e w5 (⟨-, rfl, k5⟩ | ⟨T5, q5, v5, rs5, hs5, _⟩)
              · have KW5 := hid (KW4.out.trans k5)
                clear RL4 k5 hn
                go_wp2_with fail
                refine wp_region_any (by kernel_rfl) (wpAny_of_held (S := KpS [] w5.heap.size w5.drew) _ _ _ _ ?_)
                change wpAnyH _ _ _ _ _ _ _ _ w5.drew
                refine held_take (i := 0) (v := .int .i64 4) rfl (by kernel_rfl) (by kernel_rfl) (by kernel_rfl) (fun _ _ _ h => h) rfl (fun W1 hW1 => rfl) (KpS.refl _ _ _) ?_
                simp only [Act.put, List.setIfInBounds_toArray, List.set_cons_zero, List.set_cons_succ]
                refine held_take (i := 1) (v := .bool true) rfl (by kernel_rfl) (by kernel_rfl) (by kernel_rfl) (fun _ _ _ h => h) rfl (fun W1 hW1 => by go_simp) (KpS.refl _ _ _) ?_
                simp only [Act.put, List.setIfInBounds_toArray, List.set_cons_zero, List.set_cons_succ]
                refine held_take (i := 2) (v := .bool true) rfl (by kernel_rfl) (by kernel_rfl) (by kernel_rfl) (fun _ _ _ h => h) rfl (fun W1 hW1 => by go_simp) (KpS.refl _ _ _) ?_
                simp only [Act.put, List.setIfInBounds_toArray, List.set_cons_zero, List.set_cons_succ]
                refine held_takeW (i := 3) (v := .pointer none) rfl (by kernel_rfl) (by kernel_rfl) (by kernel_rfl) (fun _ _ _ h => h) rfl (fun W1 hW1 => rfl) (KpS.refl _ _ _) ?_
                simp only [Act.put, List.setIfInBounds_toArray, List.set_cons_zero, List.set_cons_succ]
                refine held_takeW (i := 4) (v := .bool true) rfl (by kernel_rfl) (by kernel_rfl) (by kernel_rfl) (fun _ _ _ h => h) rfl (fun W1 hW1 => by go_simp) (KpS.refl _ _ _) ?_
                simp only [Act.put, List.setIfInBounds_toArray, List.set_cons_zero, List.set_cons_succ]
                refine held_take (i := 5) (v := .bool true) rfl (by kernel_rfl) (by kernel_rfl) (by kernel_rfl) (fun _ _ _ h => h) rfl (fun W1 hW1 => by go_simp) (KpS.refl _ _ _) ?_
                simp only [Act.put, List.setIfInBounds_toArray, List.set_cons_zero, List.set_cons_succ]
                refine held_take (i := 6) (v := .bool true) rfl (by kernel_rfl) (by kernel_rfl) (by kernel_rfl) (fun _ _ _ h => h) rfl (fun W1 hW1 => by go_simp) (KpS.refl _ _ _) ?_
                simp only [Act.put, List.setIfInBounds_toArray, List.set_cons_zero, List.set_cons_succ]
                refine held_skip (i := 7) rfl (by kernel_rfl) (by kernel_rfl) (by kernel_rfl) (fun _ _ _ h => h) rfl (KpS.refl _ _ _) ?_
                simp only [Act.put, List.setIfInBounds_toArray, List.set_cons_zero, List.set_cons_succ]
                refine held_skip (i := 8) rfl (by kernel_rfl) (by kernel_rfl) (by kernel_rfl) (fun _ _ _ h => h) rfl (KpS.refl _ _ _) ?_
                simp only [Act.put, List.setIfInBounds_toArray, List.set_cons_zero, List.set_cons_succ]
                refine held_skip (i := 9) rfl (by kernel_rfl) (by kernel_rfl) (by kernel_rfl) (fun _ _ _ h => h) rfl (KpS.refl _ _ _) ?_
                simp only [Act.put, List.setIfInBounds_toArray, List.set_cons_zero, List.set_cons_succ]
                refine held_skip (i := 10) rfl (by kernel_rfl) (by kernel_rfl) (by kernel_rfl) (fun _ _ _ h => h) rfl (KpS.refl _ _ _) ?_
                simp only [Act.put, List.setIfInBounds_toArray, List.set_cons_zero, List.set_cons_succ]
                refine held_skip (i := 11) rfl (by kernel_rfl) (by kernel_rfl) (by kernel_rfl) (fun _ _ _ h => h) rfl (KpS.refl _ _ _) ?_
                simp only [Act.put, List.setIfInBounds_toArray, List.set_cons_zero, List.set_cons_succ]
                refine held_skip (i := 12) rfl (by kernel_rfl) (by kernel_rfl) (by kernel_rfl) (fun _ _ _ h => h) rfl (KpS.refl _ _ _) ?_
                simp only [Act.put, List.setIfInBounds_toArray, List.set_cons_zero, List.set_cons_succ]
                refine held_skip (i := 13) rfl (by kernel_rfl) (by kernel_rfl) (by kernel_rfl) (fun _ _ _ h => h) rfl (KpS.refl _ _ _) ?_
                simp only [Act.put, List.setIfInBounds_toArray, List.set_cons_zero, List.set_cons_succ]
                refine held_skip (i := 14) rfl (by kernel_rfl) (by kernel_rfl) (by kernel_rfl) (fun _ _ _ h => h) rfl (KpS.refl _ _ _) ?_
                simp only [Act.put, List.setIfInBounds_toArray, List.set_cons_zero, List.set_cons_succ]
                refine held_skip (i := 15) rfl (by kernel_rfl) (by kernel_rfl) (by kernel_rfl) (fun _ _ _ h => h) rfl (KpS.refl _ _ _) ?_
                simp only [Act.put, List.setIfInBounds_toArray, List.set_cons_zero, List.set_cons_succ]
                refine held_skip (i := 16) rfl (by kernel_rfl) (by kernel_rfl) (by kernel_rfl) (fun _ _ _ h => h) rfl (KpS.refl _ _ _) ?_
                simp only [Act.put, List.setIfInBounds_toArray, List.set_cons_zero, List.set_cons_succ]
                refine held_skip (i := 17) rfl (by kernel_rfl) (by kernel_rfl) (by kernel_rfl) (fun _ _ _ h => h) rfl (KpS.refl _ _ _) ?_
                simp only [Act.put, List.setIfInBounds_toArray, List.set_cons_zero, List.set_cons_succ]
                refine held_skip (i := 18) rfl (by kernel_rfl) (by kernel_rfl) (by kernel_rfl) (fun _ _ _ h => h) rfl (KpS.refl _ _ _) ?_
                simp only [Act.put, List.setIfInBounds_toArray, List.set_cons_zero, List.set_cons_succ]
                refine held_take (i := 19) (v := .bool true) rfl (by kernel_rfl) (by kernel_rfl) (by kernel_rfl) (fun _ _ _ h => h) rfl (fun W1 hW1 => by go_simp) (KpS.refl _ _ _) ?_
                simp only [Act.put, List.setIfInBounds_toArray, List.set_cons_zero, List.set_cons_succ]
                refine held_take (i := 20) (v := .bool true) rfl (by kernel_rfl) (by kernel_rfl) (by kernel_rfl) (fun _ _ _ h => h) rfl (fun W1 hW1 => by go_simp) (KpS.refl _ _ _) ?_
                simp only [Act.put, List.setIfInBounds_toArray, List.set_cons_zero, List.set_cons_succ]
                refine wpAnyH_done (by kernel_rfl) ?_ _
                go_wp2_with fail
                go_ret
                exact ⟨rfl, KW5.out.drew⟩
              · cases hs5
            · have RL4 := RL w4 k4
              rw [hs] at RL4
              have KW4 := hid (KW3.out.trans k4)
              have H4 := hid h4
              clear RL k4 h4
              go_wp2_with fail
              refine RL4.mono ?_
              rintro e w5 (⟨hn5, _⟩ | ⟨T5, q5, v5, rs5, hs5, -, rfl, hb5, r5, hc5, k5⟩)
              · cases hn5
              · obtain rfl := Option.some.inj hs5
                have KW5 := hid (KW4.out.trans k5)
                have H5 := H4.out.later k5
                have q5l := lt_of_block hb5
                have cq5 : w5.cell? ⟨q5, 0, none⟩ = some v5 := by simp [World.cell?, hb5]
                clear RL4 hs5 hs
                go_wp2_with fail
                refine wp_region_any (by kernel_rfl) (wpAny_of_held (S := KpS [] w5.heap.size w5.drew) _ _ _ _ ?_)
                change wpAnyH _ _ _ _ _ _ _ _ w5.drew
                have C5 : ∀ W1, KpS [] w5.heap.size w5.drew W1 → W1.cell? ⟨q5, 0, none⟩ = some v5 := fun W1 h => h.cell (by rw [World.cell?_drew]; exact cq5) q5l (by simp)
                refine held_take (i := 0) (v := .int .i64 0) rfl (by kernel_rfl) (by kernel_rfl) (by kernel_rfl) (fun _ _ _ h => h) rfl (fun W1 hW1 => rfl) (KpS.refl _ _ _) ?_
                simp only [Act.put, List.setIfInBounds_toArray, List.set_cons_zero, List.set_cons_succ]
                refine held_take (i := 1) (v := .bool false) rfl (by kernel_rfl) (by kernel_rfl) (by kernel_rfl) (fun _ _ _ h => h) rfl (fun W1 hW1 => by go_simp) (KpS.refl _ _ _) ?_
                simp only [Act.put, List.setIfInBounds_toArray, List.set_cons_zero, List.set_cons_succ]
                refine held_take (i := 2) (v := .bool false) rfl (by kernel_rfl) (by kernel_rfl) (by kernel_rfl) (fun _ _ _ h => h) rfl (fun W1 hW1 => by go_simp) (KpS.refl _ _ _) ?_
                simp only [Act.put, List.setIfInBounds_toArray, List.set_cons_zero, List.set_cons_succ]
                refine held_skip (i := 3) rfl (by kernel_rfl) (by kernel_rfl) (by kernel_rfl) (fun _ _ _ h => h) rfl (KpS.refl _ _ _) ?_
                simp only [Act.put, List.setIfInBounds_toArray, List.set_cons_zero, List.set_cons_succ]
                refine held_skip (i := 4) rfl (by kernel_rfl) (by kernel_rfl) (by kernel_rfl) (fun _ _ _ h => h) rfl (KpS.refl _ _ _) ?_
                simp only [Act.put, List.setIfInBounds_toArray, List.set_cons_zero, List.set_cons_succ]
                refine held_take (i := 5) (v := .bool false) rfl (by kernel_rfl) (by kernel_rfl) (by kernel_rfl) (fun _ _ _ h => h) rfl (fun W1 hW1 => by go_simp) (KpS.refl _ _ _) ?_
                simp only [Act.put, List.setIfInBounds_toArray, List.set_cons_zero, List.set_cons_succ]
                refine held_take (i := 6) (v := .bool false) rfl (by kernel_rfl) (by kernel_rfl) (by kernel_rfl) (fun _ _ _ h => h) rfl (fun W1 hW1 => by go_simp) (KpS.refl _ _ _) ?_
                simp only [Act.put, List.setIfInBounds_toArray, List.set_cons_zero, List.set_cons_succ]
                refine held_takeW (i := 7) (v := .int .i64 0) rfl (by kernel_rfl) (by kernel_rfl) (by kernel_rfl) (fun _ _ _ h => h) rfl (fun W1 hW1 => rfl) (KpS.refl _ _ _) ?_
                simp only [Act.put, List.setIfInBounds_toArray, List.set_cons_zero, List.set_cons_succ]
                refine held_takeW (i := 8) (v := .bool true) rfl (by kernel_rfl) (by kernel_rfl) (by kernel_rfl) (fun _ _ _ h => h) rfl (fun W1 hW1 => by go_simp) (KpS.refl _ _ _) ?_
                simp only [Act.put, List.setIfInBounds_toArray, List.set_cons_zero, List.set_cons_succ]
                refine held_takeW (i := 9) (v := .bool true) rfl (by kernel_rfl) (by kernel_rfl) (by kernel_rfl) (fun _ _ _ h => h) rfl (fun W1 hW1 => by go_simp) (KpS.refl _ _ _) ?_
                simp only [Act.put, List.setIfInBounds_toArray, List.set_cons_zero, List.set_cons_succ]
                refine held_takeW (i := 10) (v := .pointer (some ⟨p4, 0, none⟩)) rfl (by kernel_rfl) (by kernel_rfl) (by kernel_rfl) (fun _ _ _ h => h) rfl (fun W1 hW1 => rfl) (KpS.refl _ _ _) ?_
                simp only [Act.put, List.setIfInBounds_toArray, List.set_cons_zero, List.set_cons_succ]
                refine held_takeW (i := 13) (v := .pointer (some ⟨q5, 0, none⟩)) rfl (by kernel_rfl) (by kernel_rfl) (by kernel_rfl) (fun _ _ _ h => h) rfl (fun W1 hW1 => rfl) (KpS.refl _ _ _) ?_
                simp only [Act.put, List.setIfInBounds_toArray, List.set_cons_zero, List.set_cons_succ]
                refine held_takeW (i := 14) (v := .pointer (some ⟨q5, 0, none⟩)) rfl (by kernel_rfl) (by kernel_rfl) (by kernel_rfl) (fun _ _ _ h => h) rfl (fun W1 hW1 => by go_simp) (KpS.refl _ _ _) ?_
                simp only [Act.put, List.setIfInBounds_toArray, List.set_cons_zero, List.set_cons_succ]
                refine held_takeW (i := 15) (v := .pointer (some ⟨q5, 0, none⟩)) rfl (by kernel_rfl) (by kernel_rfl) (by kernel_rfl) (fun _ _ _ h => h) rfl (fun W1 hW1 => by go_simp) (KpS.refl _ _ _) ?_
                simp only [Act.put, List.setIfInBounds_toArray, List.set_cons_zero, List.set_cons_succ]
                refine held_takeW (i := 16) (v := v5) rfl (by kernel_rfl) (by kernel_rfl) (by kernel_rfl) (fun _ _ _ h => h) rfl (fun W1 hW1 => exec_load _ _ _ _ rfl rfl (run_loadCell W1 _ _ _ (C5 W1 hW1) (agg_no _ (by kernel_rfl)))) (KpS.refl _ _ _) ?_
                simp only [Act.put, List.setIfInBounds_toArray, List.set_cons_zero, List.set_cons_succ]
                refine held_doW (i := 11) (by kernel_rfl) rfl rfl (wp_enter (f := 30) (args := #[.pointer (some ⟨p4, 0, none⟩)]) (by go_simp) (rowsF (H5.later (Keeps.refl [] w5).drew)) ?_)
                rintro e w7 ⟨a7, c7, rs7, rfl, r7, hc7, k7⟩
                have s7 : KpS [] w5.heap.size w5.drew w7 := (KpS.refl _ _ _).keeps k7 (Nat.le_refl _) (by simp)
                refine ⟨_, rfl, s7, ?_⟩
                simp only [Act.put, List.setIfInBounds_toArray, List.set_cons_zero, List.set_cons_succ]
                have f7 : rs7.length ≤ 4 := by have h1 := congrArg List.length hc7; have h2 := refLk_length T4 4; simp [refL] at h1; omega
                have lt7 : ∀ b ∈ [p4], b < w7.heap.size := fun b hb => Nat.lt_of_lt_of_le (H5.lt b hb) (((Keeps.refl [] w5).drew.trans k7)).size
                refine held_doW (i := 12) (by kernel_rfl) rfl rfl (wp_enter (f := 29) (args := #[.slice a7 rs7.length c7]) (by go_simp) (j8Model_any w7 [p4] lt7 _ rs7 r7 (by omega)) ?_)
                rintro e w8 ⟨a8, c8, rfl, r8, k8⟩
                have s8 : KpS [] w5.heap.size w5.drew w8 := s7.keeps k8 k7.size (by simp)
                refine ⟨_, rfl, s8, ?_⟩
                simp only [Act.put, List.setIfInBounds_toArray, List.set_cons_zero, List.set_cons_succ]
                have k58 := (Keeps.refl [] w5).drew.trans (k7.trans k8)
                refine held_doW (i := 17) (by kernel_rfl) rfl rfl (wp_enter (f := 28) (args := #[.slice a8 rs7.length c8, v5]) (by go_simp) (vSameRows_any w8 [p4] [q5] _ _ rs7 rs5 r8 (r5.later k58) (by omega) (hc7.trans hc5.symm)) ?_)
                rintro e w9 ⟨rfl, n9, rfl⟩
                have s9 : KpS [] w5.heap.size w5.drew (w8.drewN n9) := s8.keeps ((Keeps.refl [] w8).drewN n9) k58.size (by simp)
                refine ⟨_, rfl, s9, ?_⟩
                simp only [Act.put, List.setIfInBounds_toArray, List.set_cons_zero, List.set_cons_succ]
                refine held_takeW (i := 18) (v := .bool true) rfl (by kernel_rfl) (by kernel_rfl) (by kernel_rfl) (fun _ _ _ h => h) rfl (fun W1 hW1 => by go_simp) (s9) ?_
                simp only [Act.put, List.setIfInBounds_toArray, List.set_cons_zero, List.set_cons_succ]
                refine held_take (i := 19) (v := .bool true) rfl (by kernel_rfl) (by kernel_rfl) (by kernel_rfl) (fun _ _ _ h => h) rfl (fun W1 hW1 => by go_simp) (s9) ?_
                simp only [Act.put, List.setIfInBounds_toArray, List.set_cons_zero, List.set_cons_succ]
                refine held_take (i := 20) (v := .bool true) rfl (by kernel_rfl) (by kernel_rfl) (by kernel_rfl) (fun _ _ _ h => h) rfl (fun W1 hW1 => by go_simp) (s9) ?_
                simp only [Act.put, List.setIfInBounds_toArray, List.set_cons_zero, List.set_cons_succ]
                refine wpAnyH_done (by kernel_rfl) ?_ _
                have KZ := hid (KW5.out.trans (k58.drewN n9))
                clear C5 s7 s8 s9 k58 r7 r8 k7 k8 lt7 f7 hc7 r5 hc5 k5 hb5 H5 cq5 q5l
                generalize w8.drewN n9 = wz at KZ ⊢
                go_wp2_with fail
                go_ret
                exact ⟨rfl, KZ.out⟩
      · go_wp2_with fail
        go_ret
        exact ⟨rfl, K1.out⟩
end Go.Proofs.Ytkfebgbgnpdgpaa
