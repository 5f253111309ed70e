/- note: NoteReplies' walk. -/
import Derived.Test.YtoglcohdanpciaaNtL
import Derived.Test.YtoglcohdanpciaaNtV
namespace Go.Proofs.Ytoglcohdanpciaa
open Go.RowKit Go.Shelf
set_option maxRecDepth 100000
set_option linter.unusedSimpArgs false
set_option linter.unusedVariables false
set_option maxHeartbeats 51200000 in
theorem replies16_any (w : World) (r q : Rp) (v1 v2 u1 u2 : Value) (cut : Int) (hr : LsAt KEnt w v1 r.es) (mr : RowAt w v2 r.mp) (hq : LsAt KEnt w u1 q.es) (mq : RowAt w u2 q.mp) :
    Calls Try.prog 14 #[rpV r v1 v2, rpV q u1 u2, .int .i64 cut] w (PBn w true) := by
  obtain ⟨av, cv, rfl⟩ := hr.shape
  obtain ⟨au, cu, rfl⟩ := hq.shape
  have F1 := hr.few
  have F2 := hq.few
  have F3 := fits_row mr
  have F4 := fits_row mq
  unfold maxLen at F1 F2 F3 F4
  obtain ⟨am, cm, rfl⟩ : ∃ a c, v2 = .slice a r.mp.length c := by obtain ⟨a, c, e, _⟩ := mr; exact ⟨a, c, e⟩
  obtain ⟨an, cn, rfl⟩ : ∃ a c, u2 = .slice a q.mp.length c := by obtain ⟨a, c, e, _⟩ := mq; exact ⟨a, c, e⟩
  obtain ⟨v1, hv1⟩ : ∃ z, z = Value.slice av r.es.length cv := ⟨_, rfl⟩
  obtain ⟨v2, hv2⟩ : ∃ z, z = Value.slice am r.mp.length cm := ⟨_, rfl⟩
  obtain ⟨u1, hu1⟩ : ∃ z, z = Value.slice au q.es.length cu := ⟨_, rfl⟩
  obtain ⟨u2, hu2⟩ : ∃ z, z = Value.slice an q.mp.length cn := ⟨_, rfl⟩
  rw [← hv1] at hr ⊢
  rw [← hu1] at hq ⊢
  rw [← hv2] at mr ⊢
  rw [← hu2] at mq ⊢
  have HV1 := hid hv1
  have HV2 := hid hv2
  have HU1 := hid hu1
  have HU2 := hid hu2
  have ka : Keeps [] w ((w.alloc (.cells (r.cells v1 v2).toArray 100)).alloc (.cells (q.cells u1 u2).toArray 100)) := ((Keeps.refl [] w).alloc _).alloc _
  have RA := hid (krange_keep (krange_new w (r.cells v1 v2) 100) ((Keeps.refl [] _).alloc (.cells (q.cells u1 u2).toArray 100)) (by simp))
  have RB := krange_new (w.alloc (.cells (r.cells v1 v2).toArray 100)) (q.cells u1 u2) 100
  rw [World.size_alloc] at RB
  have RB := hid RB
  have LTA := hid (show w.heap.size < ((w.alloc (.cells (r.cells v1 v2).toArray 100)).alloc (.cells (q.cells u1 u2).toArray 100)).heap.size by simp; omega)
  have LTB := hid (show w.heap.size + 1 < ((w.alloc (.cells (r.cells v1 v2).toArray 100)).alloc (.cells (q.cells u1 u2).toArray 100)).heap.size by simp)
  have KA := hid ka
  have HR := hid (hr.keep ka)
  have HQ := hid (hq.keep ka)
  have MR := hid (mr.keep ka (by intro _ _ _ _ _; simp))
  have MQ := hid (mq.keep ka (by intro _ _ _ _ _; simp))
  clear hr hq mr mq ka hv1 hv2 hu1 hu2
  go_enter Try.func14, Try.ntmps14
  go_wp2_with (first | (refine wpList_is rfl _ _ (exec_box 100 _ (r.cells v1 v2).toArray rfl rfl) ?_) | (refine wpList_is rfl _ _ (exec_box 100 _ (q.cells u1 u2).toArray rfl rfl) ?_; refine Hid.out ?_) | fail)
  refine hid ?_
  obtain ⟨W, hW⟩ : ∃ z, z = (w.alloc (.cells (r.cells v1 v2).toArray 100)).alloc (.cells (q.cells u1 u2).toArray 100) := ⟨_, rfl⟩
  obtain ⟨ba, hba⟩ : ∃ z, z = w.heap.size := ⟨_, rfl⟩
  obtain ⟨bb, hbb⟩ : ∃ z, z = w.heap.size + 1 := ⟨_, rfl⟩
  rw [← hW] at RA RB KA HR HQ MR MQ LTA LTB ⊢
  rw [← hbb] at RB LTB ⊢
  rw [← hba] at RA LTA ⊢
  clear hW hba hbb
  go_wp2_with fail
  refine (awake16_any W).mono ?_
  rintro e w1 ⟨rfl, k1⟩
  have K1 := hid k1
  have ca6 := Keeps.cell k1 (ask_cell RA.out (show _ = some v1 from rfl)) (by simp) (a := ⟨ba, 6, none⟩)
  have cb6 := Keeps.cell k1 (ask_cell RB.out (show _ = some u1 from rfl)) (by simp) (a := ⟨bb, 6, none⟩)
  have ca7 := Keeps.cell k1 (ask_cell RA.out (show _ = some v2 from rfl)) (by simp) (a := ⟨ba, 7, none⟩)
  have cb7 := Keeps.cell k1 (ask_cell RB.out (show _ = some u2 from rfl)) (by simp) (a := ⟨bb, 7, none⟩)
  have ca0 := Keeps.cell k1 (ask_cell RA.out (show _ = some (.int .i64 r.e) from rfl)) (by simp) (a := ⟨ba, 0, none⟩)
  rw [HV1.out] at ca6
  rw [HV2.out] at ca7
  rw [HU1.out] at cb6
  rw [HU2.out] at cb7
  clear k1
  have KW := hid (KA.out.trans K1.out)
  by_cases o0 : r.es.length ≤ 60
  case neg =>
    have d0 : decide ((60 : Int) < (r.es.length : Int)) = true := by simp; omega
    go_wp2_with fail
    go_ret
    exact ⟨rfl, KW.out⟩
  have d0 : decide ((60 : Int) < (r.es.length : Int)) = false := by simp; omega
  by_cases o1 : q.es.length ≤ 60
  case neg =>
    have d1 : decide ((60 : Int) < (q.es.length : Int)) = true := by simp; omega
    go_wp2_with fail
    go_ret
    exact ⟨rfl, KW.out⟩
  have d1 : decide ((60 : Int) < (q.es.length : Int)) = false := by simp; omega
  by_cases o2 : r.mp.length ≤ 1000
  case neg =>
    have d2 : decide ((1000 : Int) < (r.mp.length : Int)) = true := by simp; omega
    go_wp2_with fail
    go_ret
    exact ⟨rfl, KW.out⟩
  have d2 : decide ((1000 : Int) < (r.mp.length : Int)) = false := by simp; omega
  by_cases o3 : q.mp.length ≤ 1000
  case neg =>
    have d3 : decide ((1000 : Int) < (q.mp.length : Int)) = true := by simp; omega
    go_wp2_with fail
    go_ret
    exact ⟨rfl, KW.out⟩
  have d3 : decide ((1000 : Int) < (q.mp.length : Int)) = false := by simp; omega
  by_cases o4 : r.e ≤ 18
  case neg =>
    have d4 : decide ((18 : Int) < r.e) = true := by simp; omega
    go_wp2_with fail
    go_ret
    exact ⟨rfl, KW.out⟩
  have d4 : decide ((18 : Int) < r.e) = false := by simp; omega
  have E1 := hid (show r.es.length ≤ 60 by omega)
  have E2 := hid (show q.es.length ≤ 60 by omega)
  have M1 := hid (show r.mp.length ≤ 1000 by omega)
  have M2 := hid (show q.mp.length ≤ 1000 by omega)
  have EE := hid (show r.e ≤ 18 by omega)
  have hes1 : r.es.length ≤ 60 := E1.out
  have hes2 : q.es.length ≤ 60 := E2.out
  clear o0 o1 o2 o3 o4
  go_wp2_with fail
  clear d0 d1 d2 d3 d4 ca7 cb7 ca0
  have HR1 := hid (HR.out.keep K1.out)
  have HQ1 := hid (HQ.out.keep K1.out)
  rw [HV1.out] at HR1
  rw [HU1.out] at HQ1
  go_wp2_with fail
  go_loop [7] (fun iv => ∃ i : Nat, iv = .int .i64 (i : Int) ∧ i ≤ r.es.length ∧ Hid (∀ x ∈ r.es.take i, x.nm.size ≤ 100)) (fun iv => r.es.length - (intOf iv).toNat)
  case atStart => exact ⟨0, rfl, by omega, hid (by simp)⟩
  case round =>
    obtain ⟨i, rfl, hi, HN⟩ := hrel
    by_cases hlt : i < r.es.length
    · obtain ⟨g, off, e1, hg, R0⟩ := HR1.out.at i hlt
      subst e1
      obtain ⟨x, hx⟩ : ∃ x, x = r.es[i]'hlt := ⟨_, rfl⟩
      rw [← hx] at R0
      have cn : w1.cell? ⟨g, off + i * 3, none⟩ = some (.string x.nm) := R0 0 _ rfl
      have HX := hid hx
      have HLT := hid hlt
      clear hx R0 hg
      by_cases hn : x.nm.size ≤ 100
      · have dn : decide ((100 : Int) < (x.nm.size : Int)) = false := by simp; omega
        have HNX := hid hn
        clear hn
        go_wp2_with fail
        go_round
        case rel => exact ⟨i + 1, by go_num, by have := HLT.out; omega, hid (by
          rw [List.take_succ_eq_append_getElem HLT.out]
          intro y hy
          rcases List.mem_append.1 hy with hy | hy
          · exact HN.out y hy
          · simp only [List.mem_singleton] at hy; rw [hy, ← HX.out]; exact HNX.out)⟩
        case measure => have := HLT.out; simp [intOf]; omega
      · have dn : decide ((100 : Int) < (x.nm.size : Int)) = true := by simp; omega
        clear hn
        go_wp2_with fail
        go_ret
        exact ⟨rfl, KW.out⟩
    · obtain rfl : i = r.es.length := by omega
      have N1 := hid (show ∀ x ∈ r.es, x.nm.size ≤ 100 by have := HN.out; rwa [List.take_length] at this)
      go_wp2_with fail
      go_loop [8] (fun iv => ∃ i : Nat, iv = .int .i64 (i : Int) ∧ i ≤ q.es.length ∧ Hid (∀ x ∈ q.es.take i, x.nm.size ≤ 100)) (fun iv => q.es.length - (intOf iv).toNat)
      case atStart => exact ⟨0, rfl, by omega, hid (by simp)⟩
      case round =>
        obtain ⟨i, rfl, hi, HN⟩ := hrel
        by_cases hlt : i < q.es.length
        · obtain ⟨g, off, e1, hg, R0⟩ := HQ1.out.at i hlt
          subst e1
          obtain ⟨x, hx⟩ : ∃ x, x = q.es[i]'hlt := ⟨_, rfl⟩
          rw [← hx] at R0
          have cn : w1.cell? ⟨g, off + i * 3, none⟩ = some (.string x.nm) := R0 0 _ rfl
          have HX := hid hx
          have HLT := hid hlt
          clear hx R0 hg
          by_cases hn : x.nm.size ≤ 100
          · have dn : decide ((100 : Int) < (x.nm.size : Int)) = false := by simp; omega
            have HNX := hid hn
            clear hn
            go_wp2_with fail
            go_round
            case rel => exact ⟨i + 1, by go_num, by have := HLT.out; omega, hid (by
              rw [List.take_succ_eq_append_getElem HLT.out]
              intro y hy
              rcases List.mem_append.1 hy with hy | hy
              · exact HN.out y hy
              · simp only [List.mem_singleton] at hy; rw [hy, ← HX.out]; exact HNX.out)⟩
            case measure => have := HLT.out; simp [intOf]; omega
          · have dn : decide ((100 : Int) < (x.nm.size : Int)) = true := by simp; omega
            clear hn
            go_wp2_with fail
            go_ret
            exact ⟨rfl, KW.out⟩
        · obtain rfl : i = q.es.length := by omega
          have N2 := hid (show ∀ x ∈ q.es, x.nm.size ≤ 100 by have := HN.out; rwa [List.take_length] at this)
          -- both Encodes
          have MR1 := hid (MR.out.keep K1.out (by intro _ _ _ _ _; simp))
          have MQ1 := hid (MQ.out.keep K1.out (by intro _ _ _ _ _; simp))
          have RA1 := hid (krange_keep RA.out K1.out (by simp))
          have RB1 := hid (krange_keep RB.out K1.out (by simp))
          have CV := hid (fun (W2 : World) => lawReply_any W2 r av am r.es.length r.mp.length cv cm)
          have CU := hid (fun (W2 : World) => lawReply_any W2 q au an q.es.length q.mp.length cu cn)
          rw [← HV1.out, ← HV2.out] at CV
          rw [← HU1.out, ← HU2.out] at CU
          go_wp2_with (first | (refine wpList_is rfl _ _ (exec_load _ _ _ _ rfl rfl (loadRp 100 urRep srRep _ ba r v1 v2 RA1.out)) ?_) | fail)
          refine (CV.out w1).mono ?_
          rintro e w2 ⟨rfl, k2⟩
          have K2 := hid (K1.out.trans k2)
          clear k2
          go_wp2_with fail
          refine (ntEncR_any w2 r v1 v2 (HR.out.keep K2.out) (MR.out.keep K2.out (by intro _ _ _ _ _; simp)) (by have := M1.out; omega) (fun x hx => by have := N1.out x hx; omega)).mono ?_
          rintro e w3 ⟨k3, a4, c4, rfl, r3, _⟩
          have K3 := hid (K2.out.trans k3)
          obtain ⟨e1, he1⟩ : ∃ z, z = (encP r).2 := ⟨_, rfl⟩
          obtain ⟨bl, hbl⟩ : ∃ z, z = (encP r).1 := ⟨_, rfl⟩
          rw [← hbl] at r3 ⊢
          rw [← he1]
          have R3 := hid r3
          have RB3 := hid (krange_keep RB.out K3.out (by simp))
          have HE1 := hid he1
          have HBL1 := hid hbl
          clear r3 k3 he1 hbl
          go_wp2_with (first | (refine wpList_is rfl _ _ (exec_load _ _ _ _ rfl rfl (loadRp 100 urRep srRep _ bb q u1 u2 RB3.out)) ?_) | fail)
          refine (CU.out w3).mono ?_
          rintro e w4 ⟨rfl, k4⟩
          have K4' := hid (K3.out.trans k4)
          have R3' := hid (R3.out.keep k4 (by intro _ _ _ _ _; simp))
          clear k4
          go_wp2_with fail
          refine (ntEncR_any w4 q u1 u2 (HQ.out.keep K4'.out) (MQ.out.keep K4'.out (by intro _ _ _ _ _; simp)) (by have := M2.out; omega) (fun x hx => by have := N2.out x hx; omega)).mono ?_
          rintro e w5 ⟨k5, a5, c5, rfl, r5, _⟩
          have KS := hid (K4'.out.trans k5)
          have R4 := hid (R3'.out.keep k5 (by intro _ _ _ _ _; simp))
          obtain ⟨e2, he2⟩ : ∃ z, z = (encP q).2 := ⟨_, rfl⟩
          obtain ⟨cl, hcl⟩ : ∃ z, z = (encP q).1 := ⟨_, rfl⟩
          rw [← hcl] at r5 ⊢
          rw [← he2]
          have S4 := hid r5
          have HE2 := hid he2
          have HCL1 := hid hcl
          clear r5 k5 he2 hcl
          by_cases z1 : e1 = 0
          case neg =>
            have f1 : (e1 != 0) = true := by simpa using z1
            clear z1
            go_wp2_with fail
            go_ret
            exact ⟨rfl, KA.out.trans KS.out⟩
          have f1 : (e1 != 0) = false := by simpa using z1
          by_cases z2 : e2 = 0
          case neg =>
            have f2 : (e2 != 0) = true := by simpa using z2
            clear z1 z2
            go_wp2_with fail
            go_ret
            exact ⟨rfl, KA.out.trans KS.out⟩
          have f2 : (e2 != 0) = false := by simpa using z2
          obtain ⟨hb1, fr⟩ := encP_ok (r := r) (by rw [← HE1.out]; exact z1) EE.out
          obtain ⟨_, fr0⟩ := encP_ok0 (r := r) (by rw [← HE1.out]; exact z1)
          obtain ⟨hb2, fq0⟩ := encP_ok0 (r := q) (by rw [← HE2.out]; exact z2)
          have BL := hid (show bl = rpC.b r by rw [HBL1.out, hb1])
          have CL := hid (show cl = rpC.b q by rw [HCL1.out, hb2])
          have FR := hid fr
          have FR0 := hid fr0
          have FQ0 := hid fq0
          have HCL := hid (show cl.length ≤ 60000 by rw [CL.out]; have := rpB_len (r := q) (by have := M2.out; omega) (by have := E2.out; omega) N2.out; omega)
          have K4 := hid (KA.out.trans KS.out)
          have KS2 := KS
          clear z1 z2 hb1 fr fr0 hb2 fq0 HE1 HE2 HBL1 HCL1
          -- both are encoded
          have HBL := hid (show bl.length ≤ 60000 from by rw [BL.out]; have := rpB_len (r := r) (by have := M1.out; omega) (by have := E1.out; omega) N1.out; omega)
          have hpos : 0 < bl.length := by rw [BL.out]; exact bp_ne
          have HPOS := hid hpos
          have hz0 : ((bl.length : Int) == 0) = false := beq_eq_false_iff_ne.2 (by have := HPOS.out; omega)
          have hk : (bl.length : Int) ≠ 0 := by omega
          have hl2 : bl.length ≤ 60000 := HBL.out
          have t1 : -(bl.length : Int) < cut.tmod bl.length := by
            have := Int.tmod_lt_of_pos (-cut) (show (0 : Int) < bl.length by omega)
            rw [Int.neg_tmod] at this
            omega
          have t2 : cut.tmod bl.length < bl.length := Int.tmod_lt_of_pos cut (by omega)
          obtain ⟨j, hj⟩ : ∃ j : Nat, (cut.tmod (bl.length : Int) + bl.length) % (bl.length : Int) = (j : Int) := Int.eq_ofNat_of_zero_le (Int.emod_nonneg _ hk)
          have HJL := hid (show j < bl.length by have := Int.emod_lt_of_pos (cut.tmod (bl.length : Int) + bl.length) (show (0 : Int) < bl.length by omega); omega)
          obtain ⟨a7, sT, sT2, rT, bT⟩ := row_take R4.out j (Nat.le_of_lt HJL.out)
          rw [← hj] at sT
          have SLC := hid sT
          have RT := hid (rT _ R4.out)
          have HD2 := hid (show decW rpC (bl.take j) = 2 by rw [BL.out]; exact cut_b rpC_ok FR.out (by rw [← BL.out]; exact HJL.out))
          have HD3 := hid (show decW rpC (bl ++ [0]) = 3 by rw [BL.out]; exact long_b rpC_ok FR.out _)
          have LJ := hid (show (bl.take j).length ≤ 35184372088832 by rw [List.length_take]; have := HBL.out; omega)
          clear sT sT2 rT bT hpos
          go_wp2_with (first | (refine wpList_is rfl _ _ (exec_sliceN 34 _ _ _ _ _ rfl (SLC.out _)) ?_) | (go_at_call 38; refine Hid.out ?_) | fail)
          refine hid ?_
          clear hz0 hk t1 t2 hj
          refine (decP_any _ _ _ RT.out LJ.out).mono ?_
          rw [HD2.out]
          rintro e w6 ⟨k6, ⟨hy, _⟩ | ⟨_, rfl⟩⟩
          case inl => exact absurd hy (by decide)
          have kb := k6.trans ((Keeps.refl [] w6).alloc (.cells (rpZ.cells (.slice none 0 0) (.slice none 0 0)).toArray 73))
          have K7 := hid (KS.out.trans kb)
          have R7 := hid (R4.out.keep kb (by intro _ _ _ _ _; simp))
          have S7 := hid (S4.out.keep kb (by intro _ _ _ _ _; simp))
          clear kb k6
          go_wp2_with (first | (refine wpList_is rfl _ _ (exec_alloc 73 (rpZ.cells (.slice none 0 0) (.slice none 0 0)).toArray iRep rfl) ?_) | (refine wpList_noval rfl _ (exec_storeNew 73 _ _ rfl w6 (rpZ.cells (.slice none 0 0) (.slice none 0 0)).toArray (rpZ.cells (.slice none 0 0) (.slice none 0 0)).toArray rfl rfl rfl iRep rfl (all_one (one_rp _ _ _ _ _ _ _))) ?_; refine Hid.out ?_) | fail)
          refine hid ?_
          generalize w6.alloc (.cells (rpZ.cells (.slice none 0 0) (.slice none 0 0)).toArray 73) = w7 at K7 R7 S7 ⊢
          go_wp2_with fail
          refine (copy_any w7 _ bl R7.out (by have := HBL.out; omega)).mono ?_
          rintro e w8 ⟨a8, c8, rfl, o8, k8⟩
          have X9 := hid (row_one (w := w8) 0 5 (by decide))
          have k9 : Keeps [] w8 (w8.alloc (.cells #[.int .u8 0] 5)) := (Keeps.refl [] w8).alloc _
          have O9 := hid (o8.alloc (.cells #[.int .u8 0] 5))
          have HB8 := hid (Nat.le_trans k8.size k9.size)
          have BY := hid (show ∀ z ∈ bl ++ [0], 0 ≤ z ∧ z ≤ 255 from fun z hz => by
            rcases List.mem_append.1 hz with hz | hz
            · exact R7.out.bytes z hz
            · simp only [List.mem_singleton] at hz; rw [hz]; exact (by decide))
          obtain ⟨a9, c9, w9, hrun, o9, kA⟩ := append_bN O9.out _ _ _ X9.out (by have := HBL.out; simp only [List.length_cons, List.length_nil]; omega) HB8.out 34
          have kX : Keeps [] w7 w9 := (k8.trans k9).trans' kA (fun i hi hm => by have := (O9.out.lt i (by simpa using hm)).1; omega)
          have K9 := hid (K7.out.trans kX)
          have R9 := hid (R7.out.keep kX (by intro _ _ _ _ _; simp))
          have S9 := hid (S7.out.keep kX (by intro _ _ _ _ _; simp))
          have RX := hid (row_of_own o9 BY.out)
          have RUN := hid hrun
          have LX := hid (show (bl ++ [0]).length ≤ 35184372088832 by have := HBL.out; simp only [List.length_append, List.length_cons, List.length_nil]; omega)
          clear hrun o9 kA kX k8 k9 o8
          obtain ⟨lx, hlx⟩ : ∃ z, z = (bl ++ [0]).length := ⟨_, rfl⟩
          rw [← hlx] at RUN RX
          have HLX := hid hlx
          clear hlx
          go_wp2_with (first | (refine wpList_is rfl _ _ (exec_oneB _ 0 rfl rfl) ?_) | (at_builtin; refine wpList_is rfl _ _ (exec_appendT 34 _ _ rfl rfl rfl RUN.out) ?_) | (go_at_call 38; refine Hid.out ?_) | fail)
          refine hid ?_
          have RX2 := hid (show RowAt w9 (.slice a9 lx c9) (bl ++ [0]) from RX.out)
          refine (decP_any _ _ _ RX2.out LX.out).mono ?_
          rw [HD3.out]
          rintro e wA ⟨kA, ⟨hy, _⟩ | ⟨_, rfl⟩⟩
          case inl => exact absurd hy (by decide)
          have kb := kA.trans ((Keeps.refl [] wA).alloc (.cells (rpZ.cells (.slice none 0 0) (.slice none 0 0)).toArray 73))
          have KB := hid (K9.out.trans kb)
          have RB9 := hid (R9.out.keep kb (by intro _ _ _ _ _; simp))
          have SB9 := hid (S9.out.keep kb (by intro _ _ _ _ _; simp))
          clear kb kA RX RX2 RUN
          go_wp2_with (first | (refine wpList_is rfl _ _ (exec_alloc 73 (rpZ.cells (.slice none 0 0) (.slice none 0 0)).toArray iRep rfl) ?_) | (refine wpList_noval rfl _ (exec_storeNew 73 _ _ rfl wA (rpZ.cells (.slice none 0 0) (.slice none 0 0)).toArray (rpZ.cells (.slice none 0 0) (.slice none 0 0)).toArray rfl rfl rfl iRep rfl (all_one (one_rp _ _ _ _ _ _ _))) ?_; refine Hid.out ?_) | fail)
          refine hid ?_
          generalize wA.alloc (.cells (rpZ.cells (.slice none 0 0) (.slice none 0 0)).toArray 73) = wB at KB RB9 SB9 ⊢
          have RAB := hid (krange_keep RA.out KB.out (by simp))
          have RBB := hid (krange_keep RB.out KB.out (by simp))
          have LA := hid (Nat.lt_of_lt_of_le LTA.out KB.out.size)
          have LB := hid (Nat.lt_of_lt_of_le LTB.out KB.out.size)
          go_wp2_with fail
          refine wp_region_any (by kernel_rfl) (wpAny_of_held (S := KpS [] wB.heap.size wB.drew) _ _ _ _ ?_)
          change wpAnyH _ _ _ _ _ _ _ _ wB.drew
          have s0 : KpS [] wB.heap.size wB.drew wB.drew := KpS.refl _ _ _
          have cA : ∀ W1, KpS [] wB.heap.size wB.drew W1 → W1.rangeAt ba 0 (r.cells v1 v2) := fun W1 h t u hu => h.cell (by rw [World.cell?_drew]; exact RAB.out t u hu) LA.out (by simp)
          have cB : ∀ W1, KpS [] wB.heap.size wB.drew W1 → W1.rangeAt bb 0 (q.cells u1 u2) := fun W1 h t u hu => h.cell (by rw [World.cell?_drew]; exact RBB.out t u hu) LB.out (by simp)
          refine held_take (i := 0) (v := .int .i64 2) rfl (by kernel_rfl) (by kernel_rfl) (by kernel_rfl) (fun _ _ _ h => h) rfl (fun W1 hW1 => rfl) (KpS.refl _ _ _) ?_
          simp only [Act.put, List.setIfInBounds_toArray, List.set_cons_zero, List.set_cons_succ]
          refine held_take (i := 1) (v := .bool true) rfl (by kernel_rfl) (by kernel_rfl) (by kernel_rfl) (fun _ _ _ h => h) rfl (fun W1 hW1 => by go_simp) (KpS.refl _ _ _) ?_
          simp only [Act.put, List.setIfInBounds_toArray, List.set_cons_zero, List.set_cons_succ]
          refine held_take (i := 2) (v := .bool true) rfl (by kernel_rfl) (by kernel_rfl) (by kernel_rfl) (fun _ _ _ h => h) rfl (fun W1 hW1 => by go_simp) (KpS.refl _ _ _) ?_
          simp only [Act.put, List.setIfInBounds_toArray, List.set_cons_zero, List.set_cons_succ]
          refine held_takeW (i := 3) (v := .int .i64 3) rfl (by kernel_rfl) (by kernel_rfl) (by kernel_rfl) (fun _ _ _ h => h) rfl (fun W1 hW1 => rfl) (KpS.refl _ _ _) ?_
          simp only [Act.put, List.setIfInBounds_toArray, List.set_cons_zero, List.set_cons_succ]
          refine held_takeW (i := 4) (v := .bool true) rfl (by kernel_rfl) (by kernel_rfl) (by kernel_rfl) (fun _ _ _ h => h) rfl (fun W1 hW1 => by go_simp) (KpS.refl _ _ _) ?_
          simp only [Act.put, List.setIfInBounds_toArray, List.set_cons_zero, List.set_cons_succ]
          refine held_take (i := 5) (v := .bool true) rfl (by kernel_rfl) (by kernel_rfl) (by kernel_rfl) (fun _ _ _ h => h) rfl (fun W1 hW1 => by go_simp) (KpS.refl _ _ _) ?_
          simp only [Act.put, List.setIfInBounds_toArray, List.set_cons_zero, List.set_cons_succ]
          refine held_take (i := 6) (v := .bool true) rfl (by kernel_rfl) (by kernel_rfl) (by kernel_rfl) (fun _ _ _ h => h) rfl (fun W1 hW1 => by go_simp) (KpS.refl _ _ _) ?_
          simp only [Act.put, List.setIfInBounds_toArray, List.set_cons_zero, List.set_cons_succ]
          refine held_takeW (i := 7) (v := .slice a4 bl.length c4) rfl (by kernel_rfl) (by kernel_rfl) (by kernel_rfl) (fun _ _ _ h => h) rfl (fun W1 hW1 => rfl) (KpS.refl _ _ _) ?_
          simp only [Act.put, List.setIfInBounds_toArray, List.set_cons_zero, List.set_cons_succ]
          refine held_takeW (i := 8) (v := .slice a5 cl.length c5) rfl (by kernel_rfl) (by kernel_rfl) (by kernel_rfl) (fun _ _ _ h => h) rfl (fun W1 hW1 => rfl) (KpS.refl _ _ _) ?_
          simp only [Act.put, List.setIfInBounds_toArray, List.set_cons_zero, List.set_cons_succ]
          refine held_takeW (i := 10) (v := rpV r v1 v2) rfl (by kernel_rfl) (by kernel_rfl) (by kernel_rfl) (fun _ _ _ h => h) rfl (fun W1 hW1 => exec_load _ _ _ _ rfl rfl (loadRp 100 urRep srRep W1 ba r v1 v2 (cA W1 hW1))) (KpS.refl _ _ _) ?_
          simp only [Act.put, List.setIfInBounds_toArray, List.set_cons_zero, List.set_cons_succ]
          refine held_takeW (i := 11) (v := rpV q u1 u2) rfl (by kernel_rfl) (by kernel_rfl) (by kernel_rfl) (fun _ _ _ h => h) rfl (fun W1 hW1 => exec_load _ _ _ _ rfl rfl (loadRp 100 urRep srRep W1 bb q u1 u2 (cB W1 hW1))) (KpS.refl _ _ _) ?_
          simp only [Act.put, List.setIfInBounds_toArray, List.set_cons_zero, List.set_cons_succ]
          refine held_doW (i := 9) (by kernel_rfl) rfl rfl (wp_enter (f := 29) (args := #[.slice a4 bl.length c4, .slice a5 cl.length c5]) (by go_simp) (same_any _ _ _ bl cl (RB9.out.keep (Keeps.refl [] wB).drew (by intro _ _ _ _ _; simp)) (SB9.out.keep (Keeps.refl [] wB).drew (by intro _ _ _ _ _; simp)) (by have := HBL.out; omega) (by have := HCL.out; omega)) ?_)
          rintro e y1 ⟨rfl, n1, e1⟩
          have k1 : Keeps [] wB.drew y1 := by rw [e1]; exact (Keeps.refl [] wB.drew).drewN n1
          have s1 : KpS [] wB.heap.size wB.drew y1 := s0.keeps k1 s0.size (by simp)
          have h1 : Keeps [] wB y1 := (Keeps.refl [] wB).drew.trans k1
          clear e1
          obtain ⟨z1, hz1⟩ : ∃ z, z = decide (bl = cl) := ⟨_, rfl⟩
          rw [← hz1]
          refine ⟨_, rfl, s1, ?_⟩
          simp only [Act.put, List.setIfInBounds_toArray, List.set_cons_zero, List.set_cons_succ]
          refine held_doW (i := 12) (by kernel_rfl) rfl rfl (wp_enter (f := 49) (args := #[rpV r v1 v2, rpV q u1 u2]) (by go_simp) (sameR_any y1 r q v1 v2 u1 u2 (HR.out.keep (KB.out.trans h1)) (HQ.out.keep (KB.out.trans h1)) (MR.out.keep (KB.out.trans h1) (by intro _ _ _ _ _; simp)) (MQ.out.keep (KB.out.trans h1) (by intro _ _ _ _ _; simp)) (by have := M1.out; omega) (by have := M2.out; omega)) ?_)
          rintro e y2 ⟨z2, rfl, hz2, k2⟩
          have s2 : KpS [] wB.heap.size wB.drew y2 := s1.keeps k2 s1.size (by simp)
          have h2 : Keeps [] wB y2 := h1.trans k2
          have ZZ : z1 = z2 := by
            rw [hz1]
            by_cases hrq : r = q
            · rw [hz2.2 hrq]
              exact decide_eq_true (by rw [BL.out, CL.out, hrq])
            · have : z2 = false := by
                cases hzz : z2 with
                | false => rfl
                | true => exact absurd (hz2.1 hzz) hrq
              rw [this]
              exact decide_eq_false (fun e => hrq (rp_inj FR0.out FQ0.out (by rw [← BL.out, ← CL.out]; exact e)))
          subst ZZ
          refine ⟨_, rfl, s2, ?_⟩
          simp only [Act.put, List.setIfInBounds_toArray, List.set_cons_zero, List.set_cons_succ]
          refine held_takeW (i := 13) (v := .bool true) rfl (by kernel_rfl) (by kernel_rfl) (by kernel_rfl) (fun _ _ _ h => h) rfl (fun W1 hW1 => by cases z1 <;> go_simp) (s2) ?_
          simp only [Act.put, List.setIfInBounds_toArray, List.set_cons_zero, List.set_cons_succ]
          refine held_take (i := 14) (v := .bool true) rfl (by kernel_rfl) (by kernel_rfl) (by kernel_rfl) (fun _ _ _ h => h) rfl (fun W1 hW1 => by go_simp) (s2) ?_
          simp only [Act.put, List.setIfInBounds_toArray, List.set_cons_zero, List.set_cons_succ]
          refine held_take (i := 15) (v := .bool true) rfl (by kernel_rfl) (by kernel_rfl) (by kernel_rfl) (fun _ _ _ h => h) rfl (fun W1 hW1 => by go_simp) (s2) ?_
          simp only [Act.put, List.setIfInBounds_toArray, List.set_cons_zero, List.set_cons_succ]
          refine wpAnyH_done (by kernel_rfl) ?_ _
          have KE := hid (KA.out.trans (KB.out.trans h2))
          clear cA cB s0 s1 s2 k1 k2 h1 h2 hz1 hz2
          go_wp2_with fail
          go_ret
          exact ⟨rfl, KE.out⟩
end Go.Proofs.Ytoglcohdanpciaa
