/- note: a request, a reply are encoded by the code. -/
import Derived.Test.YtoglcohdanpciaaNtC
namespace Go.Proofs.Ytoglcohdanpciaa
open Go.RowKit Go.Shelf
set_option maxRecDepth 100000
set_option linter.unusedSimpArgs false
set_option linter.unusedVariables false
theorem off_olds {w : World} {u : Value} {zs : List Int} (h : RowAt w u zs) {S : List Nat} (hS : ∀ k ∈ S, w.heap.size ≤ k) : Off S u zs := by
  intro ad n c e hne hm
  have hpos : 0 < zs.length := List.length_pos_iff.2 hne
  obtain ⟨g2, off, cap, rfl, _, hc⟩ := h.open hpos
  injection e with e1 _ _
  obtain rfl := Option.some.inj e1
  have h1 := World.block_lt_of_cell? _ _ (hc 0 hpos)
  have h2 := hS _ hm
  simp only at h1 h2
  omega
theorem BCl.back {w W : World} {r : List Int × Int} {e : Ending} {w' : World} (k : Keeps [] w W) (h : BCl W r e w') : BCl w r e w' := by
  obtain ⟨h1, ⟨h2, a, c, h3, h4, h5⟩ | h2⟩ := h
  · exact ⟨k.trans h1, Or.inl ⟨h2, a, c, h3, h4, fun ad had => Nat.le_trans k.size (h5 ad had)⟩⟩
  · exact ⟨k.trans h1, Or.inr h2⟩
theorem ask_cell {W : World} {b : Nat} {cs : List Value} (h : W.rangeAt b 0 cs) {j : Nat} {u : Value} (hu : cs[j]? = some u) : W.cell? ⟨b, j, none⟩ = some u := by simpa using h j u hu

set_option maxHeartbeats 25600000 in
theorem ntEncd_any (w : World) (r : Rq) (vs vd : Value) (hs : LsAt KSz w vs r.ss) (hd : DlsAt w vd r.dl) (hp : r.pa.size ≤ 35184372088832) (ht : r.tp.size ≤ 35184372088832) :
    Calls Try.prog 82 #[rqV r vs vd] w (BCl w (encQ r)) := by
  have F1 := hs.few
  have F2 := hd.few
  unfold maxLen at F1 F2
  obtain ⟨az, cs, rfl⟩ := hs.shape
  obtain ⟨ad, cd, rfl⟩ := hd.shape
  have ka : Keeps [] w (w.alloc (.cells (r.cells (.slice az r.ss.length cs) (.slice ad r.dl.length cd)).toArray 82)) := (Keeps.refl [] w).alloc _
  have KA := hid ka
  have CR := hid (krange_new w (r.cells (.slice az r.ss.length cs) (.slice ad r.dl.length cd)) 82)
  have VS := hid (hs.keep ka)
  have VD := hid (hd.keep ka)
  have Hpa := hid hp
  have Htp := hid ht
  obtain ⟨enc, henc⟩ : ∃ z, z = encQ r := ⟨_, rfl⟩
  rw [← henc]
  have HENC := hid henc
  clear hs hd hp ht ka henc
  have c3 : (w.alloc (.cells (r.cells (.slice az r.ss.length cs) (.slice ad r.dl.length cd)).toArray 82)).cell? ⟨w.heap.size, 3, none⟩ = some (.int .i64 r.dO) := ask_cell CR.out rfl
  go_enter Try.func82, Try.ntmps82
  go_wp2_with (first | (refine wpList_is rfl _ _ (exec_box 82 _ (r.cells (.slice az r.ss.length cs) (.slice ad r.dl.length cd)).toArray rfl rfl) ?_) | fail)
  generalize w.alloc (.cells (r.cells (.slice az r.ss.length cs) (.slice ad r.dl.length cd)).toArray 82) = W at KA CR VS VD c3 ⊢
  clear c3
  have KX := KA
  refine (ntIsDo_any _ r.dO).mono ?_
  rintro e _ ⟨rfl, rfl⟩
  cases hdo : okDo r.dO with
  | false =>
    have HDO := hid hdo
    clear hdo
    go_wp2_with fail
    refine (ntMust_any _ false 1).mono ?_
    rintro e _ ⟨rfl, ⟨h, _⟩ | ⟨h, rfl⟩⟩
    · exact absurd h (by decide)
    · clear h
      unfold gaveUp
      go_wp2_with fail
      have e0 : enc = ([], 1) := by rw [HENC.out]; unfold encQ; rw [if_pos HDO.out]
      rw [e0]
      exact ⟨rfl, KX.out, Or.inr ⟨by decide, rfl, rfl⟩⟩
  | true =>
    have HDO := hid hdo
    clear hdo
    have c13 := ask_cell CR.out (show _ = some (.slice ad r.dl.length cd) from rfl) (j := 13)
    go_wp2_with fail
    refine (ntMust_any _ true 1).mono ?_
    rintro e _ ⟨rfl, ⟨_, rfl⟩ | ⟨h, _⟩⟩
    case inr => exact absurd rfl h
    go_wp2_with fail
    clear c13
    refine (ntAny_any W _ r.dl VD.out).mono ?_
    rintro e w2 ⟨rfl, k2⟩
    have KX := hid (KA.out.trans k2)
    have K2 := hid k2
    clear k2
    cases hbd : badL r.dl with
    | true =>
      have HBD := hid hbd
      clear hbd
      go_wp2_with fail
      refine (ntMust_any _ false 1).mono ?_
      rintro e _ ⟨rfl, ⟨h, _⟩ | ⟨h, rfl⟩⟩
      · exact absurd h (by decide)
      · clear h
        unfold gaveUp
        go_wp2_with fail
        have e0 : enc = ([], 1) := by rw [HENC.out]; unfold encQ; rw [if_neg (by rw [HDO.out]; simp), if_pos HBD.out]
        rw [e0]
        exact ⟨rfl, KX.out, Or.inr ⟨by decide, rfl, rfl⟩⟩
    | false =>
      have HBD := hid hbd
      clear hbd
      have c12 := Keeps.cell K2.out (ask_cell CR.out (show _ = some (.slice az r.ss.length cs) from rfl)) (by simp) (a := ⟨w.heap.size, 12, none⟩)
      have c13 := Keeps.cell K2.out (ask_cell CR.out (show _ = some (.slice ad r.dl.length cd) from rfl)) (by simp) (a := ⟨w.heap.size, 13, none⟩)
      go_wp2_with fail
      refine (ntMust_any _ true 1).mono ?_
      rintro e _ ⟨rfl, ⟨_, rfl⟩ | ⟨h, _⟩⟩
      case inr => exact absurd rfl h
      by_cases h1 : r.ss.length ≤ 4000
      case neg =>
        have d1 : decide ((r.ss.length : Int) ≤ 4000) = false := by simp; omega
        have H1 := hid h1
        clear h1
        go_wp2_with fail
        refine (ntMust_any _ false 3).mono ?_
        rintro e _ ⟨rfl, ⟨h, _⟩ | ⟨h, rfl⟩⟩
        · exact absurd h (by decide)
        · clear h
          unfold gaveUp
          go_wp2_with fail
          have e0 : enc = ([], 3) := by rw [HENC.out]; unfold encQ; rw [if_neg (by rw [HDO.out]; simp), if_neg (by rw [HBD.out]; simp), if_pos (Or.inl (by have := H1.out; omega))]
          rw [e0]
          exact ⟨rfl, KX.out, Or.inr ⟨by decide, rfl, rfl⟩⟩
      have d1 : decide ((r.ss.length : Int) ≤ 4000) = true := by simp; omega
      have H1 := hid h1
      clear h1
      by_cases h2 : r.dl.length ≤ 4000
      case neg =>
        have d2 : decide ((r.dl.length : Int) ≤ 4000) = false := by simp; omega
        have H2 := hid h2
        clear h2
        go_wp2_with fail
        refine (ntMust_any _ false 3).mono ?_
        rintro e _ ⟨rfl, ⟨h, _⟩ | ⟨h, rfl⟩⟩
        · exact absurd h (by decide)
        · clear h
          unfold gaveUp
          go_wp2_with fail
          have e0 : enc = ([], 3) := by rw [HENC.out]; unfold encQ; rw [if_neg (by rw [HDO.out]; simp), if_neg (by rw [HBD.out]; simp), if_pos (Or.inr (by have := H2.out; omega))]
          rw [e0]
          exact ⟨rfl, KX.out, Or.inr ⟨by decide, rfl, rfl⟩⟩
      have d2 : decide ((r.dl.length : Int) ≤ 4000) = true := by simp; omega
      have H2 := hid h2
      clear h2
      go_wp2_with fail
      refine (ntMust_any _ true 3).mono ?_
      rintro e _ ⟨rfl, ⟨_, rfl⟩ | ⟨h, _⟩⟩
      case inr => exact absurd rfl h
      clear c12 c13 d1 d2
      obtain ⟨s1, e1⟩ : ∃ t : PSt, t = penNum r.cl 1 ([], 0) := ⟨_, rfl⟩
      obtain ⟨s2, e2⟩ : ∃ t : PSt, t = penNum r.lf 3 s1 := ⟨_, rfl⟩
      obtain ⟨s3, e3⟩ : ∃ t : PSt, t = penNum r.sq 4 s2 := ⟨_, rfl⟩
      obtain ⟨s4, e4⟩ : ∃ t : PSt, t = penNum r.dO 1 s3 := ⟨_, rfl⟩
      obtain ⟨s5, e5⟩ : ∃ t : PSt, t = penRaw (codes r.pa) s4 := ⟨_, rfl⟩
      obtain ⟨s6, e6⟩ : ∃ t : PSt, t = penRaw (codes r.tp) s5 := ⟨_, rfl⟩
      obtain ⟨s7, e7⟩ : ∃ t : PSt, t = penBool r.di s6 := ⟨_, rfl⟩
      obtain ⟨s8, e8⟩ : ∃ t : PSt, t = penBool r.wr s7 := ⟨_, rfl⟩
      obtain ⟨s9, e9⟩ : ∃ t : PSt, t = penBool r.cz s8 := ⟨_, rfl⟩
      obtain ⟨s10, e10⟩ : ∃ t : PSt, t = penNum r.ha 1 s9 := ⟨_, rfl⟩
      obtain ⟨s11, e11⟩ : ∃ t : PSt, t = penNum r.nx 4 s10 := ⟨_, rfl⟩
      obtain ⟨s12, e12⟩ : ∃ t : PSt, t = penNum r.sw 3 s11 := ⟨_, rfl⟩
      obtain ⟨s13, e13⟩ : ∃ t : PSt, t = lsP szC.p r.ss (penNum (r.ss.length : Int) 2 s12) := ⟨_, rfl⟩
      obtain ⟨s14, e14⟩ : ∃ t : PSt, t = lsP dlC.p r.dl (penNum (r.dl.length : Int) 2 s13) := ⟨_, rfl⟩
      have HR := hid (show enc = endS s14 by rw [HENC.out]; unfold encQ; rw [if_neg (by rw [HDO.out]; simp), if_neg (by rw [HBD.out]; simp), if_neg (by have := H1.out; have := H2.out; omega)]; congr 1; rw [e14, e13, e12, e11, e10, e9, e8, e7, e6, e5, e4, e3, e2, e1]; rfl)
      have E1 := hid e1.symm
      have E2 := hid e2.symm
      have E3 := hid e3.symm
      have E4 := hid e4.symm
      have E5 := hid e5.symm
      have E6 := hid e6.symm
      have E7 := hid e7.symm
      have E8 := hid e8.symm
      have E9 := hid e9.symm
      have E10 := hid e10.symm
      have E11 := hid e11.symm
      have E12 := hid e12.symm
      have E13 := hid e13.symm
      have E14 := hid e14.symm
      clear HENC e1 e2 e3 e4 e5 e6 e7 e8 e9 e10 e11 e12 e13 e14
      have P0 := hid (PenSince.new W K2.out 172)
      have cc := Keeps.cell ((Keeps.refl [] w2).alloc (.cells #[.slice none 0 0, .int .i64 0] 172)) (Keeps.cell K2.out (ask_cell CR.out (show _ = some (.int .i64 r.cl) from rfl)) (by simp) (a := ⟨w.heap.size, 0, none⟩)) (by simp)
      go_wp2_with fail
      clear cc
      obtain ⟨p, hp⟩ : ∃ p, p = w2.heap.size := ⟨_, rfl⟩
      rw [← hp] at P0 ⊢
      obtain ⟨wq0, hwq⟩ : ∃ x, x = w2.alloc (.cells #[.slice none 0 0, .int .i64 0] 172) := ⟨_, rfl⟩
      rw [← hwq] at P0 ⊢
      clear hp hwq
      have HN := num_any wq0 W.heap.size p (.slice none 0 0) ([] : List Int) (0 : Int) r.cl 1 P0.out.pen P0.out.kept.size
      rw [show penNum r.cl 1 (([] : List Int), (0 : Int)) = s1 from E1.out] at HN
      refine HN.mono ?_
      intro e wq1 hq
      obtain ⟨rfl, v1, q1⟩ := P0.out.step hq
      have P1 := hid q1
      clear hq q1 HN
      have cc := Keeps.cell P1.out.kept (ask_cell CR.out (show _ = some (.int .i64 r.lf) from rfl)) (by simp) (a := ⟨w.heap.size, 1, none⟩)
      go_wp2_with fail
      clear cc
      have HN := num_any wq1 W.heap.size p v1 s1.1 s1.2 r.lf 3 P1.out.pen P1.out.kept.size
      rw [show penNum r.lf 3 (s1.1, s1.2) = s2 from E2.out] at HN
      refine HN.mono ?_
      intro e wq2 hq
      obtain ⟨rfl, v2, q2⟩ := P1.out.step hq
      have P2 := hid q2
      clear hq q2 HN
      have cc := Keeps.cell P2.out.kept (ask_cell CR.out (show _ = some (.int .i64 r.sq) from rfl)) (by simp) (a := ⟨w.heap.size, 2, none⟩)
      go_wp2_with fail
      clear cc
      have HN := num_any wq2 W.heap.size p v2 s2.1 s2.2 r.sq 4 P2.out.pen P2.out.kept.size
      rw [show penNum r.sq 4 (s2.1, s2.2) = s3 from E3.out] at HN
      refine HN.mono ?_
      intro e wq3 hq
      obtain ⟨rfl, v3, q3⟩ := P2.out.step hq
      have P3 := hid q3
      clear hq q3 HN
      have cc := Keeps.cell P3.out.kept (ask_cell CR.out (show _ = some (.int .i64 r.dO) from rfl)) (by simp) (a := ⟨w.heap.size, 3, none⟩)
      go_wp2_with fail
      clear cc
      have HN := num_any wq3 W.heap.size p v3 s3.1 s3.2 r.dO 1 P3.out.pen P3.out.kept.size
      rw [show penNum r.dO 1 (s3.1, s3.2) = s4 from E4.out] at HN
      refine HN.mono ?_
      intro e wq4 hq
      obtain ⟨rfl, v4, q4⟩ := P3.out.step hq
      have P4 := hid q4
      clear hq q4 HN
      have cc := Keeps.cell P4.out.kept (ask_cell CR.out (show _ = some (.string r.pa) from rfl)) (by simp) (a := ⟨w.heap.size, 4, none⟩)
      go_wp2_with fail
      clear cc
      have HN := text_any wq4 W.heap.size p v4 s4.1 s4.2 r.pa P4.out.pen P4.out.kept.size Hpa.out
      rw [show penRaw (codes r.pa) (s4.1, s4.2) = s5 from E5.out] at HN
      refine HN.mono ?_
      intro e wq5 hq
      obtain ⟨rfl, v5, q5⟩ := P4.out.step hq
      have P5 := hid q5
      clear hq q5 HN
      have cc := Keeps.cell P5.out.kept (ask_cell CR.out (show _ = some (.string r.tp) from rfl)) (by simp) (a := ⟨w.heap.size, 5, none⟩)
      go_wp2_with fail
      clear cc
      have HN := text_any wq5 W.heap.size p v5 s5.1 s5.2 r.tp P5.out.pen P5.out.kept.size Htp.out
      rw [show penRaw (codes r.tp) (s5.1, s5.2) = s6 from E6.out] at HN
      refine HN.mono ?_
      intro e wq6 hq
      obtain ⟨rfl, v6, q6⟩ := P5.out.step hq
      have P6 := hid q6
      clear hq q6 HN
      have cc := Keeps.cell P6.out.kept (ask_cell CR.out (show _ = some (.bool r.di) from rfl)) (by simp) (a := ⟨w.heap.size, 6, none⟩)
      go_wp2_with fail
      clear cc
      have HN := bool_any wq6 W.heap.size p v6 s6.1 s6.2 r.di P6.out.pen P6.out.kept.size
      rw [show penBool r.di (s6.1, s6.2) = s7 from E7.out] at HN
      refine HN.mono ?_
      intro e wq7 hq
      obtain ⟨rfl, v7, q7⟩ := P6.out.step hq
      have P7 := hid q7
      clear hq q7 HN
      have cc := Keeps.cell P7.out.kept (ask_cell CR.out (show _ = some (.bool r.wr) from rfl)) (by simp) (a := ⟨w.heap.size, 7, none⟩)
      go_wp2_with fail
      clear cc
      have HN := bool_any wq7 W.heap.size p v7 s7.1 s7.2 r.wr P7.out.pen P7.out.kept.size
      rw [show penBool r.wr (s7.1, s7.2) = s8 from E8.out] at HN
      refine HN.mono ?_
      intro e wq8 hq
      obtain ⟨rfl, v8, q8⟩ := P7.out.step hq
      have P8 := hid q8
      clear hq q8 HN
      have cc := Keeps.cell P8.out.kept (ask_cell CR.out (show _ = some (.bool r.cz) from rfl)) (by simp) (a := ⟨w.heap.size, 8, none⟩)
      go_wp2_with fail
      clear cc
      have HN := bool_any wq8 W.heap.size p v8 s8.1 s8.2 r.cz P8.out.pen P8.out.kept.size
      rw [show penBool r.cz (s8.1, s8.2) = s9 from E9.out] at HN
      refine HN.mono ?_
      intro e wq9 hq
      obtain ⟨rfl, v9, q9⟩ := P8.out.step hq
      have P9 := hid q9
      clear hq q9 HN
      have cc := Keeps.cell P9.out.kept (ask_cell CR.out (show _ = some (.int .i64 r.ha) from rfl)) (by simp) (a := ⟨w.heap.size, 9, none⟩)
      go_wp2_with fail
      clear cc
      have HN := num_any wq9 W.heap.size p v9 s9.1 s9.2 r.ha 1 P9.out.pen P9.out.kept.size
      rw [show penNum r.ha 1 (s9.1, s9.2) = s10 from E10.out] at HN
      refine HN.mono ?_
      intro e wq10 hq
      obtain ⟨rfl, v10, q10⟩ := P9.out.step hq
      have P10 := hid q10
      clear hq q10 HN
      have cc := Keeps.cell P10.out.kept (ask_cell CR.out (show _ = some (.int .i64 r.nx) from rfl)) (by simp) (a := ⟨w.heap.size, 10, none⟩)
      go_wp2_with fail
      clear cc
      have HN := num_any wq10 W.heap.size p v10 s10.1 s10.2 r.nx 4 P10.out.pen P10.out.kept.size
      rw [show penNum r.nx 4 (s10.1, s10.2) = s11 from E11.out] at HN
      refine HN.mono ?_
      intro e wq11 hq
      obtain ⟨rfl, v11, q11⟩ := P10.out.step hq
      have P11 := hid q11
      clear hq q11 HN
      have cc := Keeps.cell P11.out.kept (ask_cell CR.out (show _ = some (.int .i64 r.sw) from rfl)) (by simp) (a := ⟨w.heap.size, 11, none⟩)
      go_wp2_with fail
      clear cc
      have HN := num_any wq11 W.heap.size p v11 s11.1 s11.2 r.sw 3 P11.out.pen P11.out.kept.size
      rw [show penNum r.sw 3 (s11.1, s11.2) = s12 from E12.out] at HN
      refine HN.mono ?_
      intro e wq12 hq
      obtain ⟨rfl, v12, q12⟩ := P11.out.step hq
      have P12 := hid q12
      clear hq q12 HN
      have cc := Keeps.cell P12.out.kept (ask_cell CR.out (show _ = some (.slice az r.ss.length cs) from rfl)) (by simp) (a := ⟨w.heap.size, 12, none⟩)
      go_wp2_with fail
      clear cc
      have HN := ntPutS_any W wq12 p v12 s12 P12.out (.slice az r.ss.length cs) r.ss VS.out
      rw [E13.out] at HN
      refine HN.mono ?_
      intro e wq13 hq
      obtain ⟨rfl, v13, q13⟩ := hq
      have P13 := hid q13
      clear q13 HN
      have cc := Keeps.cell P13.out.kept (ask_cell CR.out (show _ = some (.slice ad r.dl.length cd) from rfl)) (by simp) (a := ⟨w.heap.size, 13, none⟩)
      go_wp2_with fail
      clear cc
      have HN := ntPutD_any W wq13 p v13 s13 P13.out (.slice ad r.dl.length cd) r.dl VD.out
      rw [E14.out] at HN
      refine HN.mono ?_
      intro e wq14 hq
      obtain ⟨rfl, v14, q14⟩ := hq
      have P14 := hid q14
      clear q14 HN
      go_wp2_with fail
      refine (ntWritten_any W wq14 p v14 s14 P14.out).mono ?_
      rintro e w9 hq
      obtain ⟨k9, ⟨hz, a9, c9, rfl, r9, n9⟩ | ⟨hz, h0, rfl⟩⟩ := hq
      · have HZ := hid hz
        have R9 := hid r9
        have K9 := hid (KA.out.trans k9)
        have N9 := hid n9
        clear hz r9 k9 n9
        go_wp2_with fail
        go_ret
        rw [HR.out]
        exact ⟨K9.out, Or.inl ⟨HZ.out, a9, c9, rfl, R9.out, fun ad had => Nat.le_trans KA.out.size (N9.out ad had)⟩⟩
      · have HZ := hid hz
        have H0 := hid h0
        have K9 := hid (KA.out.trans k9)
        clear hz h0 k9
        unfold gaveUp
        go_wp2_with fail
        rw [HR.out]
        exact ⟨rfl, K9.out, Or.inr ⟨HZ.out, H0.out, rfl⟩⟩
set_option maxHeartbeats 25600000 in
theorem ntEncdR_any (w : World) (r : Rp) (ve vm : Value) (he : LsAt KEnt w ve r.es) (hm : RowAt w vm r.mp) (hl : r.mp.length ≤ 35184372088832) (hn : ∀ x ∈ r.es, x.nm.size ≤ 35184372088832) :
    Calls Try.prog 77 #[rpV r ve vm] w (BCl w (encP r)) := by
  have F1 := he.few
  unfold maxLen at F1
  obtain ⟨ae, ce, rfl⟩ := he.shape
  obtain ⟨am, cm, rfl⟩ : ∃ a c, vm = .slice a r.mp.length c := by obtain ⟨a, c, e, _⟩ := hm; exact ⟨a, c, e⟩
  have ka : Keeps [] w (w.alloc (.cells (r.cells (.slice ae r.es.length ce) (.slice am r.mp.length cm)).toArray 73)) := (Keeps.refl [] w).alloc _
  have KA := hid ka
  have CR := hid (krange_new w (r.cells (.slice ae r.es.length ce) (.slice am r.mp.length cm)) 73)
  have VE := hid (he.keep ka)
  have VM := hid (hm.keep ka (by intro _ _ _ _ _; simp))
  have HM := hid hl
  have HE := hid hn
  obtain ⟨enc, henc⟩ : ∃ z, z = encP r := ⟨_, rfl⟩
  rw [← henc]
  have HENC := hid henc
  clear he hm hl hn ka henc
  have c6 : (w.alloc (.cells (r.cells (.slice ae r.es.length ce) (.slice am r.mp.length cm)).toArray 73)).cell? ⟨w.heap.size, 6, none⟩ = some (.slice ae r.es.length ce) := ask_cell CR.out rfl
  go_enter Try.func77, Try.ntmps77
  by_cases h1 : r.es.length ≤ 4000
  case neg =>
    have d1 : decide ((r.es.length : Int) ≤ 4000) = false := by simp; omega
    have H1 := hid h1
    clear h1
    have KX := KA
    go_wp2_with (first | (refine wpList_is rfl _ _ (exec_box 73 _ (r.cells (.slice ae r.es.length ce) (.slice am r.mp.length cm)).toArray rfl rfl) ?_) | fail)
    refine (ntMust_any _ false 3).mono ?_
    rintro e _ ⟨rfl, ⟨h, _⟩ | ⟨h, rfl⟩⟩
    · exact absurd h (by decide)
    · clear h
      unfold gaveUp
      go_wp2_with fail
      have e0 : enc = ([], 3) := by rw [HENC.out]; unfold encP; rw [if_pos (by have := H1.out; omega)]
      rw [e0]
      exact ⟨rfl, KX.out, Or.inr ⟨by decide, rfl, rfl⟩⟩
  have d1 : decide ((r.es.length : Int) ≤ 4000) = true := by simp; omega
  have H1 := hid h1
  clear h1
  go_wp2_with (first | (refine wpList_is rfl _ _ (exec_box 73 _ (r.cells (.slice ae r.es.length ce) (.slice am r.mp.length cm)).toArray rfl rfl) ?_) | fail)
  generalize w.alloc (.cells (r.cells (.slice ae r.es.length ce) (.slice am r.mp.length cm)).toArray 73) = W at KA CR VE VM c6 ⊢
  clear c6
  refine (ntMust_any _ true 3).mono ?_
  rintro e _ ⟨rfl, ⟨_, rfl⟩ | ⟨h, _⟩⟩
  case inr => exact absurd rfl h
  clear d1
  obtain ⟨s1, e1⟩ : ∃ t : PSt, t = penNum r.e 1 ([], 0) := ⟨_, rfl⟩
  obtain ⟨s2, e2⟩ : ∃ t : PSt, t = penNum r.ino 2 s1 := ⟨_, rfl⟩
  obtain ⟨s3, e3⟩ : ∃ t : PSt, t = penNum r.sz 2 s2 := ⟨_, rfl⟩
  obtain ⟨s4, e4⟩ : ∃ t : PSt, t = penNum r.ha 1 s3 := ⟨_, rfl⟩
  obtain ⟨s5, e5⟩ : ∃ t : PSt, t = penNum r.sw 3 s4 := ⟨_, rfl⟩
  obtain ⟨s6, e6⟩ : ∃ t : PSt, t = penBool r.di s5 := ⟨_, rfl⟩
  obtain ⟨s7, e7⟩ : ∃ t : PSt, t = lsP enC.p r.es (penNum (r.es.length : Int) 2 s6) := ⟨_, rfl⟩
  obtain ⟨s8, e8⟩ : ∃ t : PSt, t = penRaw r.mp s7 := ⟨_, rfl⟩
  have HR := hid (show enc = endS s8 by rw [HENC.out]; unfold encP; rw [if_neg (by have := H1.out; omega)]; congr 1; rw [e8, e7, e6, e5, e4, e3, e2, e1]; rfl)
  have E1 := hid e1.symm
  have E2 := hid e2.symm
  have E3 := hid e3.symm
  have E4 := hid e4.symm
  have E5 := hid e5.symm
  have E6 := hid e6.symm
  have E7 := hid e7.symm
  have E8 := hid e8.symm
  clear HENC e1 e2 e3 e4 e5 e6 e7 e8
  have P0 := hid (PenSince.new W (Keeps.refl [] W) 172)
  have cc := Keeps.cell ((Keeps.refl [] W).alloc (.cells #[.slice none 0 0, .int .i64 0] 172)) (ask_cell CR.out (show _ = some (.int .i64 r.e) from rfl) (b := w.heap.size) (j := 0)) (by simp)
  go_wp2_with fail
  clear cc
  obtain ⟨p, hp⟩ : ∃ p, p = W.heap.size := ⟨_, rfl⟩
  obtain ⟨wq0, hwq⟩ : ∃ x, x = W.alloc (.cells #[.slice none 0 0, .int .i64 0] 172) := ⟨_, rfl⟩
  rw [← hwq] at P0 ⊢
  have P0' := P0
  clear P0
  have P0 : Hid (PenSince W wq0 172 p (.slice none 0 0) [] 0) := by rw [hp]; exact P0'
  rw [← hp]
  clear hp hwq P0'
  have HN := num_any wq0 W.heap.size p (.slice none 0 0) ([] : List Int) (0 : Int) r.e 1 P0.out.pen P0.out.kept.size
  rw [show penNum r.e 1 (([] : List Int), (0 : Int)) = s1 from E1.out] at HN
  refine HN.mono ?_
  intro e wq1 hq
  obtain ⟨rfl, v1, q1⟩ := P0.out.step hq
  have P1 := hid q1
  clear hq q1 HN
  have cc := Keeps.cell P1.out.kept (ask_cell CR.out (show _ = some (.int .i64 r.ino) from rfl)) (by simp) (a := ⟨w.heap.size, 1, none⟩)
  go_wp2_with fail
  clear cc
  have HN := num_any wq1 W.heap.size p v1 s1.1 s1.2 r.ino 2 P1.out.pen P1.out.kept.size
  rw [show penNum r.ino 2 (s1.1, s1.2) = s2 from E2.out] at HN
  refine HN.mono ?_
  intro e wq2 hq
  obtain ⟨rfl, v2, q2⟩ := P1.out.step hq
  have P2 := hid q2
  clear hq q2 HN
  have cc := Keeps.cell P2.out.kept (ask_cell CR.out (show _ = some (.int .i64 r.sz) from rfl)) (by simp) (a := ⟨w.heap.size, 2, none⟩)
  go_wp2_with fail
  clear cc
  have HN := num_any wq2 W.heap.size p v2 s2.1 s2.2 r.sz 2 P2.out.pen P2.out.kept.size
  rw [show penNum r.sz 2 (s2.1, s2.2) = s3 from E3.out] at HN
  refine HN.mono ?_
  intro e wq3 hq
  obtain ⟨rfl, v3, q3⟩ := P2.out.step hq
  have P3 := hid q3
  clear hq q3 HN
  have cc := Keeps.cell P3.out.kept (ask_cell CR.out (show _ = some (.int .i64 r.ha) from rfl)) (by simp) (a := ⟨w.heap.size, 3, none⟩)
  go_wp2_with fail
  clear cc
  have HN := num_any wq3 W.heap.size p v3 s3.1 s3.2 r.ha 1 P3.out.pen P3.out.kept.size
  rw [show penNum r.ha 1 (s3.1, s3.2) = s4 from E4.out] at HN
  refine HN.mono ?_
  intro e wq4 hq
  obtain ⟨rfl, v4, q4⟩ := P3.out.step hq
  have P4 := hid q4
  clear hq q4 HN
  have cc := Keeps.cell P4.out.kept (ask_cell CR.out (show _ = some (.int .i64 r.sw) from rfl)) (by simp) (a := ⟨w.heap.size, 4, none⟩)
  go_wp2_with fail
  clear cc
  have HN := num_any wq4 W.heap.size p v4 s4.1 s4.2 r.sw 3 P4.out.pen P4.out.kept.size
  rw [show penNum r.sw 3 (s4.1, s4.2) = s5 from E5.out] at HN
  refine HN.mono ?_
  intro e wq5 hq
  obtain ⟨rfl, v5, q5⟩ := P4.out.step hq
  have P5 := hid q5
  clear hq q5 HN
  have cc := Keeps.cell P5.out.kept (ask_cell CR.out (show _ = some (.bool r.di) from rfl)) (by simp) (a := ⟨w.heap.size, 5, none⟩)
  go_wp2_with fail
  clear cc
  have HN := bool_any wq5 W.heap.size p v5 s5.1 s5.2 r.di P5.out.pen P5.out.kept.size
  rw [show penBool r.di (s5.1, s5.2) = s6 from E6.out] at HN
  refine HN.mono ?_
  intro e wq6 hq
  obtain ⟨rfl, v6, q6⟩ := P5.out.step hq
  have P6 := hid q6
  clear hq q6 HN
  have cc := Keeps.cell P6.out.kept (ask_cell CR.out (show _ = some (.slice ae r.es.length ce) from rfl)) (by simp) (a := ⟨w.heap.size, 6, none⟩)
  go_wp2_with fail
  clear cc
  have HN := ntPutE_any W wq6 p v6 s6 P6.out (.slice ae r.es.length ce) r.es VE.out HE.out
  rw [E7.out] at HN
  refine HN.mono ?_
  intro e wq7 hq
  obtain ⟨rfl, v7, q7⟩ := hq
  have P7 := hid q7
  clear q7 HN
  have cc := Keeps.cell P7.out.kept (ask_cell CR.out (show _ = some (.slice am r.mp.length cm) from rfl)) (by simp) (a := ⟨w.heap.size, 7, none⟩)
  go_wp2_with fail
  clear cc
  have HN := raw_any wq7 W.heap.size p v7 s7.1 s7.2 (.slice am r.mp.length cm) r.mp P7.out.pen (VM.out.keep P7.out.kept (by intro _ _ _ _ _; simp)) (off_olds VM.out P7.out.le) P7.out.kept.size HM.out
  rw [show penRaw r.mp (s7.1, s7.2) = s8 from E8.out] at HN
  refine HN.mono ?_
  intro e wq8 hq
  obtain ⟨rfl, v8, q8⟩ := P7.out.step hq
  have P8 := hid q8
  clear hq q8 HN
  go_wp2_with fail
  refine (ntWritten_any W wq8 p v8 s8 P8.out).mono ?_
  rintro e w9 hq
  obtain ⟨k9, ⟨hz, a9, c9, rfl, r9, n9⟩ | ⟨hz, h0, rfl⟩⟩ := hq
  · have HZ := hid hz
    have R9 := hid r9
    have K9 := hid (KA.out.trans k9)
    have N9 := hid n9
    clear hz r9 k9 n9
    go_wp2_with fail
    go_ret
    rw [HR.out]
    exact ⟨K9.out, Or.inl ⟨HZ.out, a9, c9, rfl, R9.out, fun ad had => Nat.le_trans KA.out.size (N9.out ad had)⟩⟩
  · have HZ := hid hz
    have H0 := hid h0
    have K9 := hid (KA.out.trans k9)
    clear hz h0 k9
    unfold gaveUp
    go_wp2_with fail
    rw [HR.out]
    exact ⟨rfl, K9.out, Or.inr ⟨HZ.out, H0.out, rfl⟩⟩
end Go.Proofs.Ytoglcohdanpciaa
