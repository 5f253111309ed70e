/- note: the reference's EncodeReply. -/
import Derived.Test.YtoglcohdanpciaaGreatNtL
import Derived.Test.YtoglcohdanpciaaGreatJR
import Derived.Test.YtoglcohdanpciaaGreatJP
namespace Go.Proofs.YtoglcohdanpciaaGreat
open Go.RowKit Go.Shelf
set_option maxRecDepth 100000
set_option linter.unusedSimpArgs false
set_option linter.unusedVariables false

set_option maxHeartbeats 51200000 in
theorem rnEncR_any (w : World) (r : Rp) (ve vm : Value) (he : LsAt KEnt w ve r.es) (hm : RowAt w vm r.mp) (hl : r.mp.length ≤ 35184372088832) (hn : ∀ x ∈ r.es, x.nm.size ≤ 35184372088832) :
    Calls Tryz.prog 7 #[rpV r ve vm] w (EncPost w (rencP r)) := by
  have HF := he.few
  unfold maxLen at HF
  obtain ⟨av, cv, rfl⟩ := he.shape
  obtain ⟨am, cm, rfl⟩ : ∃ a c, vm = .slice a r.mp.length c := by obtain ⟨a, c, e, _⟩ := hm; exact ⟨a, c, e⟩
  have RA := hid (krange_new w (r.cells (.slice av r.es.length cv) (.slice am r.mp.length cm)) 25)
  have ka : Keeps [] w (w.alloc (.cells (r.cells (.slice av r.es.length cv) (.slice am r.mp.length cm)).toArray 25)) := (Keeps.refl [] w).alloc _
  have KA := hid ka
  have HE := hid (he.keep ka)
  have VM := hid (hm.keep ka (by intro _ _ _ _ _; simp))
  have HL := hid hl
  have HN := hid hn
  clear he hm hl hn ka
  obtain ⟨res, hr⟩ : ∃ z, z = rencP r := ⟨_, rfl⟩
  rw [← hr]
  have HR := hid hr
  clear hr
  go_enter Tryz.func7, Tryz.ntmps7
  go_wp2_with (first | (refine wpList_is rfl _ _ (exec_box 25 _ (r.cells (.slice av r.es.length cv) (.slice am r.mp.length cm)).toArray rfl rfl) ?_; refine Hid.out ?_) | fail)
  refine hid ?_
  obtain ⟨n0, hn0⟩ : ∃ z, z = w.heap.size := ⟨_, rfl⟩
  obtain ⟨W, hW⟩ : ∃ z, z = w.alloc (.cells (r.cells (.slice av r.es.length cv) (.slice am r.mp.length cm)).toArray 25) := ⟨_, rfl⟩
  rw [← hn0] at RA ⊢
  rw [← hW] at RA KA HE VM ⊢
  clear hn0 hW
  have ca6 := ask_cell RA.out (show _ = some (.slice av r.es.length cv) from rfl) (j := 6)
  by_cases h4 : 4000 < r.es.length
  · have H4 := hid h4
    have d4 : decide ((4000 : Int) < (r.es.length : Int)) = true := by simp; omega
    clear h4
    go_wp2_with fail
    go_ret2
    rw [HR.out]
    unfold rencP
    rw [if_pos H4.out]
    exact ⟨none, 0, rfl, row_nil _, by simp, KA.out⟩
  have H4 := hid h4
  have d4 : decide ((4000 : Int) < (r.es.length : Int)) = false := by simp; omega
  have HK4 := hid (show r.es.length ≤ 4000 by omega)
  clear h4
  have P0 := hid (PenSince.new W (Keeps.refl [] W) 58)
  have c0 := ask_cell (krange_keep RA.out P0.out.kept (by simp)) (show _ = some (.int .i64 r.e) from rfl) (j := 0)
  go_wp2_with fail
  obtain ⟨p, hp⟩ : ∃ z, z = W.heap.size := ⟨_, rfl⟩
  obtain ⟨w0, hw0⟩ : ∃ z, z = W.alloc (.cells #[.slice none 0 0, .int .i64 0] 58) := ⟨_, rfl⟩
  rw [← hw0] at P0 ⊢
  have BB := hid (show W.heap.size = p from hp.symm)
  obtain ⟨s0, hs0⟩ : ∃ z : PSt, z = ([], 0) := ⟨_, rfl⟩
  obtain ⟨v0, hv0⟩ : ∃ z : Value, z = .slice none 0 0 := ⟨_, rfl⟩
  rw [← hp] at P0 ⊢
  replace P0 : Hid (PenSince W w0 58 p v0 s0.1 s0.2) := hid (by rw [hs0, hv0]; exact P0.out)
  have HS0 := hid hs0
  clear hp hw0 c0 ca6 d4 hs0 hv0
  refine (rnum_any w0 W.heap.size p v0 s0.1 s0.2 r.e 1 P0.out.pen P0.out.kept.size).mono ?_
  intro e w1 hq
  obtain ⟨rfl, v1, q4⟩ := P0.out.step hq
  obtain ⟨s1, hs1⟩ : ∃ z, z = refNum r.e 1 s0 := ⟨_, rfl⟩
  rw [show refNum r.e 1 (s0.1, s0.2) = s1 from hs1.symm] at q4
  have P1 := hid q4
  have HS1 := hid hs1
  clear q4 hq hs1
  have c1 := ask_cell (krange_keep RA.out P1.out.kept (by simp)) (show _ = some (.int .i64 r.ino) from rfl) (j := 1)
  go_wp2_with fail
  clear c1
  refine (rnum_any w1 W.heap.size p v1 s1.1 s1.2 r.ino 2 P1.out.pen P1.out.kept.size).mono ?_
  intro e w2 hq
  obtain ⟨rfl, v2, q4⟩ := P1.out.step hq
  obtain ⟨s2, hs2⟩ : ∃ z, z = refNum r.ino 2 s1 := ⟨_, rfl⟩
  rw [show refNum r.ino 2 (s1.1, s1.2) = s2 from hs2.symm] at q4
  have P2 := hid q4
  have HS2 := hid hs2
  clear q4 hq hs2
  have c2 := ask_cell (krange_keep RA.out P2.out.kept (by simp)) (show _ = some (.int .i64 r.sz) from rfl) (j := 2)
  go_wp2_with fail
  clear c2
  refine (rnum_any w2 W.heap.size p v2 s2.1 s2.2 r.sz 2 P2.out.pen P2.out.kept.size).mono ?_
  intro e w3 hq
  obtain ⟨rfl, v3, q4⟩ := P2.out.step hq
  obtain ⟨s3, hs3⟩ : ∃ z, z = refNum r.sz 2 s2 := ⟨_, rfl⟩
  rw [show refNum r.sz 2 (s2.1, s2.2) = s3 from hs3.symm] at q4
  have P3 := hid q4
  have HS3 := hid hs3
  clear q4 hq hs3
  have c3 := ask_cell (krange_keep RA.out P3.out.kept (by simp)) (show _ = some (.int .i64 r.ha) from rfl) (j := 3)
  go_wp2_with fail
  clear c3
  refine (rnum_any w3 W.heap.size p v3 s3.1 s3.2 r.ha 1 P3.out.pen P3.out.kept.size).mono ?_
  intro e w4 hq
  obtain ⟨rfl, v4, q4⟩ := P3.out.step hq
  obtain ⟨s4, hs4⟩ : ∃ z, z = refNum r.ha 1 s3 := ⟨_, rfl⟩
  rw [show refNum r.ha 1 (s3.1, s3.2) = s4 from hs4.symm] at q4
  have P4 := hid q4
  have HS4 := hid hs4
  clear q4 hq hs4
  have c4 := ask_cell (krange_keep RA.out P4.out.kept (by simp)) (show _ = some (.int .i64 r.sw) from rfl) (j := 4)
  go_wp2_with fail
  clear c4
  refine (rnum_any w4 W.heap.size p v4 s4.1 s4.2 r.sw 3 P4.out.pen P4.out.kept.size).mono ?_
  intro e w5 hq
  obtain ⟨rfl, v5, q4⟩ := P4.out.step hq
  obtain ⟨s5, hs5⟩ : ∃ z, z = refNum r.sw 3 s4 := ⟨_, rfl⟩
  rw [show refNum r.sw 3 (s4.1, s4.2) = s5 from hs5.symm] at q4
  have P5 := hid q4
  have HS5 := hid hs5
  clear q4 hq hs5
  have c5 := ask_cell (krange_keep RA.out P5.out.kept (by simp)) (show _ = some (.bool r.di) from rfl) (j := 5)
  go_wp2_with fail
  clear c5
  refine (rbool_any w5 W.heap.size p v5 s5.1 s5.2 r.di P5.out.pen P5.out.kept.size).mono ?_
  intro e w6 hq
  obtain ⟨rfl, v6, q4⟩ := P5.out.step hq
  obtain ⟨s6, hs6⟩ : ∃ z, z = refBool r.di s5 := ⟨_, rfl⟩
  rw [show refBool r.di (s5.1, s5.2) = s6 from hs6.symm] at q4
  have P6 := hid q4
  have HS6 := hid hs6
  clear q4 hq hs6
  have c6 := ask_cell (krange_keep RA.out P6.out.kept (by simp)) (show _ = some (.slice av r.es.length cv) from rfl) (j := 6)
  go_wp2_with fail
  clear c6
  refine (rnum_any w6 W.heap.size p v6 s6.1 s6.2 (r.es.length : Int) 2 P6.out.pen P6.out.kept.size).mono ?_
  intro e w7 hq
  obtain ⟨rfl, v7, q4⟩ := P6.out.step hq
  obtain ⟨s7, hs7⟩ : ∃ z, z = refNum (r.es.length : Int) 2 s6 := ⟨_, rfl⟩
  rw [show refNum (r.es.length : Int) 2 (s6.1, s6.2) = s7 from hs7.symm] at q4
  have P7 := hid q4
  have HS7 := hid hs7
  clear q4 hq hs7
  go_wp2_with fail
  go_loopw [5] (fun iv wr => ∃ (k : Nat) (v8 : Value), k ≤ r.es.length ∧ iv = .int .i64 (k : Int) ∧ Hid (PenSince W wr 58 p v8 (lsP enC.q (r.es.take k) s7).1 (lsP enC.q (r.es.take k) s7).2)) (fun iv _ => r.es.length - (intOf iv).toNat)
  case atStart => exact ⟨0, v7, by omega, rfl, P7⟩
  case round =>
    obtain ⟨k, v8, hk, rfl, P8⟩ := hrel
    have c6 := ask_cell (krange_keep RA.out P8.out.kept (by simp)) (show _ = some (.slice av r.es.length cv) from rfl) (j := 6)
    by_cases hlt : k < r.es.length
    · have hk64 : k < 4000 := by have := HK4.out; omega
      obtain ⟨g, off, e1, hg, R0⟩ := HE.out.at k hlt
      subst e1
      obtain ⟨x, hx⟩ : ∃ x, x = r.es[k]'hlt := ⟨_, rfl⟩
      have HXN := hid (show x.nm.size ≤ 35184372088832 from by rw [hx]; exact HN.out _ (List.getElem_mem hlt))
      rw [← hx] at R0
      have R := hid R0
      have HX := hid hx
      have HLT := hid hlt
      clear hg R0 hx
      obtain ⟨t0, ht0⟩ : ∃ z, z = lsP enC.q (r.es.take k) s7 := ⟨_, rfl⟩
      rw [← ht0] at P8
      have HT0 := hid ht0
      clear ht0
      have cn : wr.cell? ⟨g, off + k * 3, none⟩ = some (.string x.nm) := (krange_keep R.out P8.out.kept (by simp)) 0 _ rfl
      have hcv := fun w => run_bytes_of_string (P := Tryz.prog) w 9 23 5 x.nm Tryz.underlying9 Tryz.underlying23 Tryz.underlying5
      go_wp2_with fail
      clear hcv cn c6
      have hc1 := grownCap_ge wr x.nm.size 0 5
      have hc2 := grownCap_le_maxLen wr x.nm.size 0 5 (by have := HXN.out; unfold maxLen; omega)
      generalize grownCap wr x.nm.size 0 5 = n at hc1 hc2 ⊢
      have K0 := ((Keeps.refl [] wr).alloc (.cells (bytesRow x.nm n) 5 ((bytesRow x.nm n).size, (bytesRow x.nm n).size + 1))).drew
      have RR : RowAt ((wr.alloc (.cells (bytesRow x.nm n) 5 ((bytesRow x.nm n).size, (bytesRow x.nm n).size + 1))).drew) (.slice (some ⟨wr.heap.size, 0, none⟩) x.nm.size n) (codes x.nm) :=
        (row_of_string wr x.nm n 5 _ hc1 hc2).keep (S := []) (Keeps.refl _ _).drew (by intro _ _ _ _ _; simp)
      have PB := P8.out.keepD K0
      have OF : Off (p :: v8.ownBlock.toList) (.slice (some ⟨wr.heap.size, 0, none⟩) x.nm.size n) (codes x.nm) := by
        intro ad _ _ hs _ hm
        injection hs with e1 _ _
        obtain rfl := Option.some.inj e1
        rcases List.mem_cons.1 hm with hm | hm
        · have := P8.out.pen.lt
          simp at hm; omega
        · have := (P8.out.pen.own.lt _ (by simpa using hm)).2
          simp at this
      refine (rraw_any _ W.heap.size p v8 t0.1 t0.2 _ (codes x.nm) PB.pen RR OF PB.kept.size (by rw [codes_length]; exact HXN.out)).mono ?_
      intro e y1 hq
      obtain ⟨rfl, u1, q4⟩ := PB.step hq
      obtain ⟨t1, ht1⟩ : ∃ z, z = refRaw (codes x.nm) t0 := ⟨_, rfl⟩
      rw [show refRaw (codes x.nm) (t0.1, t0.2) = t1 from ht1.symm] at q4
      have Q1 := hid q4
      have HT1 := hid ht1
      clear q4 hq ht1 K0 RR PB OF hc1 hc2
      have c6 := ask_cell (krange_keep RA.out Q1.out.kept (by simp)) (show _ = some (.slice (some ⟨g, off, none⟩) r.es.length cv) from rfl) (j := 6)
      have ci : y1.cell? ⟨g, off + k * 3 + 1, none⟩ = some (.int .i64 x.ino) := (krange_keep R.out Q1.out.kept (by simp)) 1 _ rfl
      go_wp2_with fail
      clear c6 ci
      refine (rnum_any y1 W.heap.size p u1 t1.1 t1.2 x.ino 2 Q1.out.pen Q1.out.kept.size).mono ?_
      intro e y2 hq
      obtain ⟨rfl, u2, q4⟩ := Q1.out.step hq
      obtain ⟨t2, ht2⟩ : ∃ z, z = refNum x.ino 2 t1 := ⟨_, rfl⟩
      rw [show refNum x.ino 2 (t1.1, t1.2) = t2 from ht2.symm] at q4
      have Q2 := hid q4
      have HT2 := hid ht2
      clear q4 hq ht2
      have c6 := ask_cell (krange_keep RA.out Q2.out.kept (by simp)) (show _ = some (.slice (some ⟨g, off, none⟩) r.es.length cv) from rfl) (j := 6)
      have ci : y2.cell? ⟨g, off + k * 3 + 2, none⟩ = some (.bool x.dir) := (krange_keep R.out Q2.out.kept (by simp)) 2 _ rfl
      go_wp2_with fail
      clear c6 ci
      refine (rbool_any y2 W.heap.size p u2 t2.1 t2.2 x.dir Q2.out.pen Q2.out.kept.size).mono ?_
      intro e y3 hq
      obtain ⟨rfl, u3, q4⟩ := Q2.out.step hq
      have Q3 := hid q4
      clear q4 hq
      have NX : lsP enC.q (r.es.take (k + 1)) s7 = refBool x.dir (t2.1, t2.2) := by
        rw [List.take_succ_eq_append_getElem HLT.out, ← HX.out]
        unfold lsP
        rw [List.foldl_append]
        show enC.q x (lsP enC.q (r.es.take k) s7) = _
        rw [← HT0.out, HT2.out, HT1.out]
        rfl
      have P9 : Hid (PenSince W y3 58 p u3 (lsP enC.q (r.es.take (k + 1)) s7).1 (lsP enC.q (r.es.take (k + 1)) s7).2) := hid (by rw [NX]; exact Q3.out)
      clear NX
      go_wp2_with fail
      go_roundw
      case rel => exact ⟨k + 1, u3, by have := HLT.out; omega, by go_num, P9⟩
      case measure => have := HLT.out; simp [intOf]; omega
    · obtain rfl : k = r.es.length := by omega
      rw [List.take_length] at P8
      obtain ⟨t0, ht0⟩ : ∃ z, z = lsP enC.q r.es s7 := ⟨_, rfl⟩
      rw [← ht0] at P8
      have HT0 := hid ht0
      clear ht0
      have c7 := ask_cell (krange_keep RA.out P8.out.kept (by simp)) (show _ = some (.slice am r.mp.length cm) from rfl) (j := 7)
      go_wp2_with fail
      clear c7 c6
      refine (rraw_any _ W.heap.size p v8 t0.1 t0.2 _ r.mp P8.out.pen (VM.out.keep P8.out.kept (by intro _ _ _ _ _; simp)) (off_olds VM.out P8.out.le) P8.out.kept.size HL.out).mono ?_
      intro e y1 hq
      obtain ⟨rfl, u1, q4⟩ := P8.out.step hq
      obtain ⟨t1, ht1⟩ : ∃ z, z = refRaw r.mp t0 := ⟨_, rfl⟩
      rw [show refRaw r.mp (t0.1, t0.2) = t1 from ht1.symm] at q4
      have Q1 := hid q4
      have HT1 := hid ht1
      clear q4 hq ht1
      go_wp2_with fail
      refine (rbytes_any _ W.heap.size p u1 t1.1 t1.2 Q1.out.pen).mono ?_
      rintro e w7 ⟨a7, c7, q0, q1, q2, q3⟩
      simp only at q0 q1
      obtain ⟨zs, hzs⟩ : ∃ z, z = (if t1.2 = 0 then t1.1 else []) := ⟨_, rfl⟩
      rw [← hzs] at q0 q1
      have HZS := hid hzs
      clear hzs
      subst q0
      have RR := hid q1
      have KK := hid (KA.out.trans (Q1.out.kept.trans q3))
      have N := hid (fun ad (h : a7 = some ad) => Nat.le_trans KA.out.size (Nat.le_trans Q1.out.kept.size (q2 ad h)))
      clear q1 q2 q3
      go_wp2_with fail
      go_ret2
      have ER : res = (zs, t1.2) := by
        rw [HR.out]
        unfold rencP
        rw [if_neg H4.out]
        have e1 : rpC.q r ([], 0) = t1 := by
          rw [HT1.out, HT0.out, HS7.out, HS6.out, HS5.out, HS4.out, HS3.out, HS2.out, HS1.out, HS0.out]
          rfl
        rw [e1]
        unfold endS
        rw [HZS.out]
      rw [ER]
      exact ⟨a7, c7, rfl, RR.out, N.out, KK.out⟩
end Go.Proofs.YtoglcohdanpciaaGreat
