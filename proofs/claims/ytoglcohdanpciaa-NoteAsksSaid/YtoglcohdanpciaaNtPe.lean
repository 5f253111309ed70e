/- note: SameRequest, where all but the rows are the same. -/
import Derived.Test.YtoglcohdanpciaaNtPb
namespace Go.Proofs.Ytoglcohdanpciaa
open Go.RowKit Go.Shelf
set_option maxRecDepth 100000
set_option linter.unusedSimpArgs false
set_option linter.unusedVariables false

set_option maxHeartbeats 51200000 in
theorem sameQ_e (w : World) (a b : Rq) (a1 a2 b1 b2 : Value) (h1 : LsAt KSz w a1 a.ss) (h2 : LsAt KSz w b1 b.ss) (m1 : LsAt KDl w a2 a.dl) (m2 : LsAt KDl w b2 b.dl) (q0 : a.cl = b.cl) (q1 : a.lf = b.lf) (q2 : a.sq = b.sq) (q3 : a.dO = b.dO) (q4 : a.pa = b.pa) (q5 : a.tp = b.tp) (q6 : a.di = b.di) (q7 : a.wr = b.wr) (q8 : a.cz = b.cz) (q9 : a.ha = b.ha) (q10 : a.nx = b.nx) (q11 : a.sw = b.sw) (q12 : a.ss.length = b.ss.length) :
    Calls Try.prog 45 #[rqV a a1 a2, rqV b b1 b2] w (PIff w (a = b)) := by
  have G0 := hid q0
  clear q0
  have G1 := hid q1
  clear q1
  have G2 := hid q2
  clear q2
  have G3 := hid q3
  clear q3
  have G4 := hid q4
  clear q4
  have G5 := hid q5
  clear q5
  have G6 := hid q6
  clear q6
  have G7 := hid q7
  clear q7
  have G8 := hid q8
  clear q8
  have G9 := hid q9
  clear q9
  have G10 := hid q10
  clear q10
  have G11 := hid q11
  clear q11
  have G12 := hid q12
  clear q12
  have F1 := h1.few
  have F2 := h2.few
  unfold maxLen at F1 F2
  obtain ⟨av, cv, rfl⟩ := h1.shape
  obtain ⟨au, cu, rfl⟩ := h2.shape
  have ka : Keeps [] w ((w.alloc (.cells (a.cells (.slice av a.ss.length cv) a2).toArray 88)).alloc (.cells (b.cells (.slice au b.ss.length cu) b2).toArray 88)) := ((Keeps.refl [] w).alloc _).alloc _
  have RA := hid (krange_keep (krange_new w (a.cells (.slice av a.ss.length cv) a2) 88) ((Keeps.refl [] _).alloc (.cells (b.cells (.slice au b.ss.length cu) b2).toArray 88)) (by simp))
  have RB := krange_new (w.alloc (.cells (a.cells (.slice av a.ss.length cv) a2).toArray 88)) (b.cells (.slice au b.ss.length cu) b2) 88
  rw [World.size_alloc] at RB
  have RB := hid RB
  have KA := hid ka
  have H1 := hid (h1.keep ka)
  have H2 := hid (h2.keep ka)
  have M1 := hid (m1.keep ka)
  have M2 := hid (m2.keep ka)
  have LL := hid (show w.heap.size + 1 < ((w.alloc (.cells (a.cells (.slice av a.ss.length cv) a2).toArray 88)).alloc (.cells (b.cells (.slice au b.ss.length cu) b2).toArray 88)).heap.size by simp)
  clear ka h1 h2 m1 m2
  go_enter Try.func45, Try.ntmps45
  go_wp2_with (first | (refine wpList_is rfl _ _ (exec_box 88 _ (a.cells (.slice av a.ss.length cv) a2).toArray rfl rfl) ?_) | (refine wpList_is rfl _ _ (exec_box 88 _ (b.cells (.slice au b.ss.length cu) b2).toArray rfl rfl) ?_; refine Hid.out ?_) | fail)
  refine hid ?_
  obtain ⟨W, hW⟩ : ∃ z, z = (w.alloc (.cells (a.cells (.slice av a.ss.length cv) a2).toArray 88)).alloc (.cells (b.cells (.slice au b.ss.length cu) b2).toArray 88) := ⟨_, rfl⟩
  obtain ⟨ba, hba⟩ : ∃ z, z = w.heap.size := ⟨_, rfl⟩
  obtain ⟨bb, hbb⟩ : ∃ z, z = w.heap.size + 1 := ⟨_, rfl⟩
  have LAB := hid (show ba < W.heap.size ∧ bb < W.heap.size by rw [hW, hba, hbb]; have := LL.out; omega)
  rw [← hW] at RA RB KA H1 H2 M1 M2 ⊢
  rw [← hbb] at RB ⊢
  rw [← hba] at RA ⊢
  clear hW hba hbb LL
  have ca0 := ask_cell RA.out (show _ = some (.int .i64 a.cl) from rfl) (j := 0)
  have cb0 := ask_cell RB.out (show _ = some (.int .i64 b.cl) from rfl) (j := 0)
  have ca1 := ask_cell RA.out (show _ = some (.int .i64 a.lf) from rfl) (j := 1)
  have cb1 := ask_cell RB.out (show _ = some (.int .i64 b.lf) from rfl) (j := 1)
  have ca2 := ask_cell RA.out (show _ = some (.int .i64 a.sq) from rfl) (j := 2)
  have cb2 := ask_cell RB.out (show _ = some (.int .i64 b.sq) from rfl) (j := 2)
  have ca3 := ask_cell RA.out (show _ = some (.int .i64 a.dO) from rfl) (j := 3)
  have cb3 := ask_cell RB.out (show _ = some (.int .i64 b.dO) from rfl) (j := 3)
  have ca4 := ask_cell RA.out (show _ = some (.string a.pa) from rfl) (j := 4)
  have cb4 := ask_cell RB.out (show _ = some (.string b.pa) from rfl) (j := 4)
  have ca5 := ask_cell RA.out (show _ = some (.string a.tp) from rfl) (j := 5)
  have cb5 := ask_cell RB.out (show _ = some (.string b.tp) from rfl) (j := 5)
  have ca6 := ask_cell RA.out (show _ = some (.bool a.di) from rfl) (j := 6)
  have cb6 := ask_cell RB.out (show _ = some (.bool b.di) from rfl) (j := 6)
  have ca7 := ask_cell RA.out (show _ = some (.bool a.wr) from rfl) (j := 7)
  have cb7 := ask_cell RB.out (show _ = some (.bool b.wr) from rfl) (j := 7)
  have ca8 := ask_cell RA.out (show _ = some (.bool a.cz) from rfl) (j := 8)
  have cb8 := ask_cell RB.out (show _ = some (.bool b.cz) from rfl) (j := 8)
  have ca9 := ask_cell RA.out (show _ = some (.int .i64 a.ha) from rfl) (j := 9)
  have cb9 := ask_cell RB.out (show _ = some (.int .i64 b.ha) from rfl) (j := 9)
  have ca10 := ask_cell RA.out (show _ = some (.int .i64 a.nx) from rfl) (j := 10)
  have cb10 := ask_cell RB.out (show _ = some (.int .i64 b.nx) from rfl) (j := 10)
  have ca11 := ask_cell RA.out (show _ = some (.int .i64 a.sw) from rfl) (j := 11)
  have cb11 := ask_cell RB.out (show _ = some (.int .i64 b.sw) from rfl) (j := 11)
  have ca12 := ask_cell RA.out (show _ = some (.slice av a.ss.length cv) from rfl) (j := 12)
  have cb12 := ask_cell RB.out (show _ = some (.slice au b.ss.length cu) from rfl) (j := 12)
  have ca13 := ask_cell RA.out (show _ = some a2 from rfl) (j := 13)
  have cb13 := ask_cell RB.out (show _ = some b2 from rfl) (j := 13)
  have q0 := G0.out
  clear G0
  have q1 := G1.out
  clear G1
  have q2 := G2.out
  clear G2
  have q3 := G3.out
  clear G3
  have q4 := G4.out
  clear G4
  have q5 := G5.out
  clear G5
  have q6 := G6.out
  clear G6
  have q7 := G7.out
  clear G7
  have q8 := G8.out
  clear G8
  have q9 := G9.out
  clear G9
  have q10 := G10.out
  clear G10
  have q11 := G11.out
  clear G11
  have q12 := G12.out
  clear G12
  have Q0 := hid q0
  have f0 : (a.cl == b.cl) = true := by simpa using q0
  clear q0
  have Q1 := hid q1
  have f1 : (a.lf == b.lf) = true := by simpa using q1
  clear q1
  have Q2 := hid q2
  have f2 : (a.sq == b.sq) = true := by simpa using q2
  clear q2
  have Q3 := hid q3
  have f3 : (a.dO != b.dO) = false := by simpa using q3
  clear q3
  have Q4 := hid q4
  have f4 : (a.pa.toList != b.pa.toList) = false := by rw [q4]; simp
  have g4 : (a.pa.toList == b.pa.toList) = true := by rw [q4]; simp
  clear q4
  have Q5 := hid q5
  have f5 : (a.tp.toList != b.tp.toList) = false := by rw [q5]; simp
  have g5 : (a.tp.toList == b.tp.toList) = true := by rw [q5]; simp
  clear q5
  have Q6 := hid q6
  have f6 : (a.di != b.di) = false := by simpa using q6
  clear q6
  have Q7 := hid q7
  have f7 : (a.wr != b.wr) = false := by simpa using q7
  clear q7
  have Q8 := hid q8
  have f8 : (a.cz != b.cz) = false := by simpa using q8
  clear q8
  have Q9 := hid q9
  have f9 : (a.ha != b.ha) = false := by simpa using q9
  clear q9
  have Q10 := hid q10
  have f10 : (a.nx != b.nx) = false := by simpa using q10
  clear q10
  have Q11 := hid q11
  have f11 : (a.sw != b.sw) = false := by simpa using q11
  clear q11
  have HN := hid q12
  have f12 : ((a.ss.length : Int) != (b.ss.length : Int)) = false := by simp; omega
  clear q12
  go_wp2_with fail
  refine (rdSame_any W a2 b2 a.dl b.dl M1.out M2.out).mono ?_
  rintro e w2 ⟨rfl, k2⟩
  have K2 := hid (KA.out.trans k2)
  have R2A := hid (krange_keep RA.out k2 (by simp))
  have R2B := hid (krange_keep RB.out k2 (by simp))
  have L2 := hid (show ba < w2.heap.size ∧ bb < w2.heap.size from ⟨Nat.lt_of_lt_of_le LAB.out.1 k2.size, Nat.lt_of_lt_of_le LAB.out.2 k2.size⟩)
  have H12 := hid (H1.out.keep k2)
  have H22 := hid (H2.out.keep k2)
  clear k2 f0 f1 f2 ca0 ca1 ca2 cb0 cb1 cb2 f3 f4 f5 f6 f7 f8 f9 f10 f11 g4 g5 f12 ca12 cb12 ca13 cb13 ca3 cb3 ca4 cb4 ca5 cb5 ca6 cb6 ca7 cb7 ca8 cb8 ca9 cb9 ca10 cb10 ca11 cb11
  by_cases q13 : a.dl = b.dl
  case neg =>
    have NE := hid (show ¬ a = b from fun e => q13 (by rw [e]))
    have f13 : eqDL a.dl b.dl = false := by
      rw [← Bool.not_eq_true]
      exact fun e => q13 (eqDL_is.1 e)
    rw [f13]
    clear q13 f13
    go_wp2_with fail
    go_ret
    exact ⟨false, rfl, ⟨fun h => (by cases h), fun h => absurd h NE.out⟩, K2.out⟩
  have Q13 := hid q13
  rw [eqDL_is.2 q13]
  clear q13
  go_wp2_with fail
  go_loopw [5] (fun iv wr => ∃ i : Nat, iv = .int .i64 (i : Int) ∧ i ≤ a.ss.length ∧ Hid (a.ss.take i = b.ss.take i) ∧ Hid (Keeps [] w2 wr)) (fun iv _ => a.ss.length - (intOf iv).toNat)
  case atStart => exact ⟨0, rfl, by omega, hid rfl, hid (Keeps.refl _ _)⟩
  case round =>
    obtain ⟨i, rfl, hi, HT, HK⟩ := hrel
    have RA' := hid (krange_keep R2A.out HK.out (by simp))
    have RB' := hid (krange_keep R2B.out HK.out (by simp))
    have ca12 := ask_cell RA'.out (show _ = some (.slice av a.ss.length cv) from rfl) (j := 12)
    have cb12 := ask_cell RB'.out (show _ = some (.slice au b.ss.length cu) from rfl) (j := 12)
    by_cases hlt : i < a.ss.length
    · have hlt2 : i < b.ss.length := by have := HN.out; omega
      obtain ⟨g, off, e1, hg, R0⟩ := (H12.out.keep HK.out).at i hlt
      obtain ⟨g2, off2, e2, hg2, S0⟩ := (H22.out.keep HK.out).at i hlt2
      subst e1
      subst e2
      have TE := hid (take_eqN hlt hlt2 HT.out)
      obtain ⟨x, hx⟩ : ∃ x, x = a.ss[i]'hlt := ⟨_, rfl⟩
      obtain ⟨y, hy⟩ : ∃ x, x = b.ss[i]'hlt2 := ⟨_, rfl⟩
      rw [← hx] at R0 TE
      rw [← hy] at S0 TE
      have R := hid R0
      have S := hid S0
      have HG := hid hg
      have HG2 := hid hg2
      have HLT := hid hlt
      have CA := hid ca12
      have CB := hid cb12
      have L3 := hid (show ba < wr.heap.size ∧ bb < wr.heap.size from ⟨Nat.lt_of_lt_of_le L2.out.1 HK.out.size, Nat.lt_of_lt_of_le L2.out.2 HK.out.size⟩)
      clear hx hy R0 S0 hg hg2
      go_wp2_with fail
      cases hq : eqSz x y
      case false =>
        have HQ := hid hq
        have NE := hid (show ¬ a = b from fun e => by
          have : x = y := TE.out.2 (by rw [e])
          have h3 := HQ.out
          rw [eqSz_is.2 this] at h3
          cases h3)
        clear hq
        refine wp_region_any (by kernel_rfl) (wpAny_of_held (S := KpS [] wr.heap.size wr.drew) _ _ _ _ ?_)
        change wpAnyH _ _ _ _ _ _ _ _ wr.drew
        have cA : ∀ W1, KpS [] wr.heap.size wr.drew W1 → W1.cell? ⟨ba, 12, none⟩ = some (.slice (some ⟨g, off, none⟩) a.ss.length cv) := fun W1 h => h.cell (by rw [World.cell?_drew]; exact CA.out) L3.out.1 (by simp)
        have cB : ∀ W1, KpS [] wr.heap.size wr.drew W1 → W1.cell? ⟨bb, 12, none⟩ = some (.slice (some ⟨g2, off2, none⟩) b.ss.length cu) := fun W1 h => h.cell (by rw [World.cell?_drew]; exact CB.out) L3.out.2 (by simp)
        refine held_take (i := 0) (v := .pointer (some ⟨ba, 12, none⟩)) rfl (by kernel_rfl) (by kernel_rfl) (by kernel_rfl) (fun _ _ _ h => h) rfl (fun W1 hW1 => by go_simp) (KpS.refl _ _ _) ?_
        simp only [Act.put, List.setIfInBounds_toArray, List.set_cons_zero, List.set_cons_succ]
        refine held_take (i := 1) (v := .slice (some ⟨g, off, none⟩) a.ss.length cv) rfl (by kernel_rfl) (by kernel_rfl) (by kernel_rfl) (fun _ _ _ h => h) rfl (fun W1 hW1 => exec_load _ _ _ _ rfl rfl (run_loadCell W1 _ _ _ (cA W1 hW1) (agg_no _ (by kernel_rfl)))) (KpS.refl _ _ _) ?_
        simp only [Act.put, List.setIfInBounds_toArray, List.set_cons_zero, List.set_cons_succ]
        refine held_take (i := 2) (v := .int .i64 (i : Int)) rfl (by kernel_rfl) (by kernel_rfl) (by kernel_rfl) (fun _ _ _ h => h) rfl (fun W1 hW1 => rfl) (KpS.refl _ _ _) ?_
        simp only [Act.put, List.setIfInBounds_toArray, List.set_cons_zero, List.set_cons_succ]
        refine held_take (i := 3) (v := .pointer (some ⟨g, off + i * 4, none⟩)) rfl (by kernel_rfl) (by kernel_rfl) (by kernel_rfl) (fun _ _ _ h => h) rfl (fun W1 hW1 => by go_simp) (KpS.refl _ _ _) ?_
        simp only [Act.put, List.setIfInBounds_toArray, List.set_cons_zero, List.set_cons_succ]
        refine held_take (i := 4) (v := KSz.v x) rfl (by kernel_rfl) (by kernel_rfl) (by kernel_rfl) (fun _ _ _ h => h) rfl (fun W1 hW1 => exec_load _ _ _ _ rfl rfl (load_run rSz W1 g (off + i * 4) x (fun t u hu => hW1.cell (by rw [World.cell?_drew]; exact R.out t u hu) HG.out (by simp)))) (KpS.refl _ _ _) ?_
        simp only [Act.put, List.setIfInBounds_toArray, List.set_cons_zero, List.set_cons_succ]
        refine held_take (i := 5) (v := .pointer (some ⟨bb, 12, none⟩)) rfl (by kernel_rfl) (by kernel_rfl) (by kernel_rfl) (fun _ _ _ h => h) rfl (fun W1 hW1 => by go_simp) (KpS.refl _ _ _) ?_
        simp only [Act.put, List.setIfInBounds_toArray, List.set_cons_zero, List.set_cons_succ]
        refine held_take (i := 6) (v := .slice (some ⟨g2, off2, none⟩) b.ss.length cu) rfl (by kernel_rfl) (by kernel_rfl) (by kernel_rfl) (fun _ _ _ h => h) rfl (fun W1 hW1 => exec_load _ _ _ _ rfl rfl (run_loadCell W1 _ _ _ (cB W1 hW1) (agg_no _ (by kernel_rfl)))) (KpS.refl _ _ _) ?_
        simp only [Act.put, List.setIfInBounds_toArray, List.set_cons_zero, List.set_cons_succ]
        refine held_take (i := 7) (v := .int .i64 (i : Int)) rfl (by kernel_rfl) (by kernel_rfl) (by kernel_rfl) (fun _ _ _ h => h) rfl (fun W1 hW1 => rfl) (KpS.refl _ _ _) ?_
        simp only [Act.put, List.setIfInBounds_toArray, List.set_cons_zero, List.set_cons_succ]
        refine held_take (i := 8) (v := .pointer (some ⟨g2, off2 + i * 4, none⟩)) rfl (by kernel_rfl) (by kernel_rfl) (by kernel_rfl) (fun _ _ _ h => h) rfl (fun W1 hW1 => by go_simp) (KpS.refl _ _ _) ?_
        simp only [Act.put, List.setIfInBounds_toArray, List.set_cons_zero, List.set_cons_succ]
        refine held_take (i := 9) (v := KSz.v y) rfl (by kernel_rfl) (by kernel_rfl) (by kernel_rfl) (fun _ _ _ h => h) rfl (fun W1 hW1 => exec_load _ _ _ _ rfl rfl (load_run rSz W1 g2 (off2 + i * 4) y (fun t u hu => hW1.cell (by rw [World.cell?_drew]; exact S.out t u hu) HG2.out (by simp)))) (KpS.refl _ _ _) ?_
        simp only [Act.put, List.setIfInBounds_toArray, List.set_cons_zero, List.set_cons_succ]
        refine held_take (i := 10) (v := .bool true) rfl (by kernel_rfl) (by kernel_rfl) (by kernel_rfl) (fun _ _ _ h => h) rfl (fun W1 hW1 => (exec_neqSz _ _ _ x y rfl rfl rfl).trans (by rw [HQ.out]; rfl)) (KpS.refl _ _ _) ?_
        simp only [Act.put, List.setIfInBounds_toArray, List.set_cons_zero, List.set_cons_succ]
        refine wpAnyH_done (by kernel_rfl) ?_ _
        go_wp2_with fail
        go_ret
        exact ⟨false, rfl, ⟨fun h => (by cases h), fun h => absurd h NE.out⟩, K2.out.trans HK.out.drew⟩
      case true =>
        have HQ := hid hq
        have XY := hid (show a.ss.take (i + 1) = b.ss.take (i + 1) from TE.out.1 (eqSz_is.1 hq))
        clear hq
        refine wp_region_any (by kernel_rfl) (wpAny_of_held (S := KpS [] wr.heap.size wr.drew) _ _ _ _ ?_)
        change wpAnyH _ _ _ _ _ _ _ _ wr.drew
        have cA : ∀ W1, KpS [] wr.heap.size wr.drew W1 → W1.cell? ⟨ba, 12, none⟩ = some (.slice (some ⟨g, off, none⟩) a.ss.length cv) := fun W1 h => h.cell (by rw [World.cell?_drew]; exact CA.out) L3.out.1 (by simp)
        have cB : ∀ W1, KpS [] wr.heap.size wr.drew W1 → W1.cell? ⟨bb, 12, none⟩ = some (.slice (some ⟨g2, off2, none⟩) b.ss.length cu) := fun W1 h => h.cell (by rw [World.cell?_drew]; exact CB.out) L3.out.2 (by simp)
        refine held_take (i := 0) (v := .pointer (some ⟨ba, 12, none⟩)) rfl (by kernel_rfl) (by kernel_rfl) (by kernel_rfl) (fun _ _ _ h => h) rfl (fun W1 hW1 => by go_simp) (KpS.refl _ _ _) ?_
        simp only [Act.put, List.setIfInBounds_toArray, List.set_cons_zero, List.set_cons_succ]
        refine held_take (i := 1) (v := .slice (some ⟨g, off, none⟩) a.ss.length cv) rfl (by kernel_rfl) (by kernel_rfl) (by kernel_rfl) (fun _ _ _ h => h) rfl (fun W1 hW1 => exec_load _ _ _ _ rfl rfl (run_loadCell W1 _ _ _ (cA W1 hW1) (agg_no _ (by kernel_rfl)))) (KpS.refl _ _ _) ?_
        simp only [Act.put, List.setIfInBounds_toArray, List.set_cons_zero, List.set_cons_succ]
        refine held_take (i := 2) (v := .int .i64 (i : Int)) rfl (by kernel_rfl) (by kernel_rfl) (by kernel_rfl) (fun _ _ _ h => h) rfl (fun W1 hW1 => rfl) (KpS.refl _ _ _) ?_
        simp only [Act.put, List.setIfInBounds_toArray, List.set_cons_zero, List.set_cons_succ]
        refine held_take (i := 3) (v := .pointer (some ⟨g, off + i * 4, none⟩)) rfl (by kernel_rfl) (by kernel_rfl) (by kernel_rfl) (fun _ _ _ h => h) rfl (fun W1 hW1 => by go_simp) (KpS.refl _ _ _) ?_
        simp only [Act.put, List.setIfInBounds_toArray, List.set_cons_zero, List.set_cons_succ]
        refine held_take (i := 4) (v := KSz.v x) rfl (by kernel_rfl) (by kernel_rfl) (by kernel_rfl) (fun _ _ _ h => h) rfl (fun W1 hW1 => exec_load _ _ _ _ rfl rfl (load_run rSz W1 g (off + i * 4) x (fun t u hu => hW1.cell (by rw [World.cell?_drew]; exact R.out t u hu) HG.out (by simp)))) (KpS.refl _ _ _) ?_
        simp only [Act.put, List.setIfInBounds_toArray, List.set_cons_zero, List.set_cons_succ]
        refine held_take (i := 5) (v := .pointer (some ⟨bb, 12, none⟩)) rfl (by kernel_rfl) (by kernel_rfl) (by kernel_rfl) (fun _ _ _ h => h) rfl (fun W1 hW1 => by go_simp) (KpS.refl _ _ _) ?_
        simp only [Act.put, List.setIfInBounds_toArray, List.set_cons_zero, List.set_cons_succ]
        refine held_take (i := 6) (v := .slice (some ⟨g2, off2, none⟩) b.ss.length cu) rfl (by kernel_rfl) (by kernel_rfl) (by kernel_rfl) (fun _ _ _ h => h) rfl (fun W1 hW1 => exec_load _ _ _ _ rfl rfl (run_loadCell W1 _ _ _ (cB W1 hW1) (agg_no _ (by kernel_rfl)))) (KpS.refl _ _ _) ?_
        simp only [Act.put, List.setIfInBounds_toArray, List.set_cons_zero, List.set_cons_succ]
        refine held_take (i := 7) (v := .int .i64 (i : Int)) rfl (by kernel_rfl) (by kernel_rfl) (by kernel_rfl) (fun _ _ _ h => h) rfl (fun W1 hW1 => rfl) (KpS.refl _ _ _) ?_
        simp only [Act.put, List.setIfInBounds_toArray, List.set_cons_zero, List.set_cons_succ]
        refine held_take (i := 8) (v := .pointer (some ⟨g2, off2 + i * 4, none⟩)) rfl (by kernel_rfl) (by kernel_rfl) (by kernel_rfl) (fun _ _ _ h => h) rfl (fun W1 hW1 => by go_simp) (KpS.refl _ _ _) ?_
        simp only [Act.put, List.setIfInBounds_toArray, List.set_cons_zero, List.set_cons_succ]
        refine held_take (i := 9) (v := KSz.v y) rfl (by kernel_rfl) (by kernel_rfl) (by kernel_rfl) (fun _ _ _ h => h) rfl (fun W1 hW1 => exec_load _ _ _ _ rfl rfl (load_run rSz W1 g2 (off2 + i * 4) y (fun t u hu => hW1.cell (by rw [World.cell?_drew]; exact S.out t u hu) HG2.out (by simp)))) (KpS.refl _ _ _) ?_
        simp only [Act.put, List.setIfInBounds_toArray, List.set_cons_zero, List.set_cons_succ]
        refine held_take (i := 10) (v := .bool false) rfl (by kernel_rfl) (by kernel_rfl) (by kernel_rfl) (fun _ _ _ h => h) rfl (fun W1 hW1 => (exec_neqSz _ _ _ x y rfl rfl rfl).trans (by rw [HQ.out]; rfl)) (KpS.refl _ _ _) ?_
        simp only [Act.put, List.setIfInBounds_toArray, List.set_cons_zero, List.set_cons_succ]
        refine wpAnyH_done (by kernel_rfl) ?_ _
        go_wp2_with fail
        go_roundw
        case rel => exact ⟨i + 1, by go_num, by have := HLT.out; omega, XY, hid HK.out.drew⟩
        case measure => have := HLT.out; simp [intOf]; omega
    · obtain rfl : i = a.ss.length := by omega
      have EQ := hid (show a.ss = b.ss by
        have := HT.out
        rw [List.take_length] at this
        rw [this, HN.out, List.take_length])
      go_wp2_with fail
      go_ret
      refine ⟨true, rfl, ⟨fun _ => ?_, fun _ => rfl⟩, K2.out.trans HK.out⟩
      obtain ⟨A0, A1, A2, A3, A4, A5, A6, A7, A8, A9, A10, A11, A12, A13⟩ := a
      obtain ⟨B0, B1, B2, B3, B4, B5, B6, B7, B8, B9, B10, B11, B12, B13⟩ := b
      have g0 := Q0.out
      have g1 := Q1.out
      have g2 := Q2.out
      have g3 := Q3.out
      have g4 := Q4.out
      have g5 := Q5.out
      have g6 := Q6.out
      have g7 := Q7.out
      have g8 := Q8.out
      have g9 := Q9.out
      have g10 := Q10.out
      have g11 := Q11.out
      have g12 := EQ.out
      have g13 := Q13.out
      simp only at g0 g1 g2 g3 g4 g5 g6 g7 g8 g9 g10 g11 g12 g13
      subst g0 g1 g2 g3 g4 g5 g6 g7 g8 g9 g10 g11 g12 g13
      rfl
end Go.Proofs.Ytoglcohdanpciaa
