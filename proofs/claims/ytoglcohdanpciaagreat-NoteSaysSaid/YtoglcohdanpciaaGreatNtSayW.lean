/- note: NoteSays' walk. -/
import Derived.Test.YtoglcohdanpciaaGreatNtL
import Derived.Test.YtoglcohdanpciaaGreatNtV
import Derived.Test.YtoglcohdanpciaaGreatNtR
import Derived.Test.YtoglcohdanpciaaGreatNtU
namespace Go.Proofs.YtoglcohdanpciaaGreat
open Go.RowKit Go.Shelf
set_option maxRecDepth 100000
set_option linter.unusedSimpArgs false
set_option linter.unusedVariables false
/-- What decoding answers, in one: the thing (the zero one where it may not be), to be read. -/
theorem DeP.one {w : World} {y : Int} {r : Rp} {e : Ending} {w' : World} (h : DeP w y r e w') : ∃ p : Rp, p = (if y = 0 then r else rpZ) ∧ ∃ a c b d, e = .returned (.tuple #[rpV p (.slice a p.es.length c) (.slice b p.mp.length d), .int .i64 y]) ∧ LsAt KEnt w' (.slice a p.es.length c) p.es ∧ RowAt w' (.slice b p.mp.length d) p.mp ∧ Keeps [] w w' := by
  obtain ⟨k, ⟨hy, v1, v2, he, ho, am, cm, hv, hr, _⟩ | ⟨hy, he⟩⟩ := h
  · obtain ⟨a, c, hs⟩ := ho.shape
    subst hs
    subst hv
    exact ⟨r, by rw [if_pos hy], a, c, am, cm, by rw [he, hy], ho.at cEnt, hr, k⟩
  · exact ⟨rpZ, by rw [if_neg hy], none, 0, none, 0, he, LsAt.nil _ _, RowAt.nil _, k⟩
theorem RDeP.one {w : World} {y : Int} {r : Rp} {e : Ending} {w' : World} (h : RDeP w y r e w') : ∃ p : Rp, p = (if y = 0 then r else rpZ) ∧ ∃ a c b d, e = .returned (.tuple #[rpV p (.slice a p.es.length c) (.slice b p.mp.length d), .int .i64 y]) ∧ LsAt KEnt w' (.slice a p.es.length c) p.es ∧ RowAt w' (.slice b p.mp.length d) p.mp ∧ Keeps [] w w' := by
  obtain ⟨k, ⟨hy, ve, am, cm, he, hl, hr⟩ | ⟨hy, he⟩⟩ := h
  · obtain ⟨a, c, hs⟩ := hl.shape
    subst hs
    exact ⟨r, by rw [if_pos hy], a, c, am, cm, by rw [he, hy], hl, hr, k⟩
  · exact ⟨rpZ, by rw [if_neg hy], none, 0, none, 0, he, LsAt.nil _ _, RowAt.nil _, k⟩
theorem mp_short {zs : List Int} (hb : Byt zs) {p : Rp} (hp : p = (if decW rpC zs = 0 then (rpC.g (zs, 0)).1 else rpZ)) : p.mp.length ≤ zs.length := by
  by_cases h : decW rpC zs = 0
  · rw [if_pos h] at hp
    obtain ⟨e, _⟩ := b_dec rpC_ok hb h
    rw [← hp] at e
    have e2 : zs.length = (rpC.b p).length := by rw [← e]
    have e3 : (rpC.b p) = (be p.e 1 ++ (be p.ino 2 ++ (be p.sz 2 ++ (be p.ha 1 ++ (be p.sw 3 ++ (be (bitI p.di) 1 ++ ((be p.es.length 2 ++ p.es.flatMap enC.b) ++ (be p.mp.length 2 ++ p.mp)))))))) := rfl
    rw [e3] at e2
    simp only [List.length_append] at e2
    omega
  · rw [if_neg h] at hp
    rw [hp]
    exact Nat.zero_le _
theorem encP_bad {r : Rp} (h : (encP r).2 ≠ 0) : (encP r).1 = [] := by
  unfold encP at h ⊢
  by_cases h3 : 4000 < r.es.length
  · rw [if_pos h3]
  · rw [if_neg h3] at h ⊢
    unfold endS at h ⊢
    exact if_neg h
set_option maxHeartbeats 51200000 in
theorem says16_any (w : World) (r : Rp) (v1 v2 u : Value) (bs : List Int) (hr : LsAt KEnt w v1 r.es) (mr : RowAt w v2 r.mp) (hb : RowAt w u bs) :
    Calls Tryz.prog 3 #[rpV r v1 v2, u] w (PBn w true) := by
  obtain ⟨av, cv, rfl⟩ := hr.shape
  have F1 := hr.few
  have F3 := fits_row mr
  have F4 := fits_row hb
  unfold maxLen at F1 F3 F4
  obtain ⟨am, cm, rfl⟩ : ∃ a c, v2 = .slice a r.mp.length c := by obtain ⟨a, c, e, _⟩ := mr; exact ⟨a, c, e⟩
  obtain ⟨ab, cb, rfl⟩ : ∃ a c, u = .slice a bs.length c := by obtain ⟨a, c, e, _⟩ := hb; exact ⟨a, c, e⟩
  obtain ⟨v1, hv1⟩ : ∃ z, z = Value.slice av r.es.length cv := ⟨_, rfl⟩
  obtain ⟨v2, hv2⟩ : ∃ z, z = Value.slice am r.mp.length cm := ⟨_, rfl⟩
  rw [← hv1] at hr ⊢
  rw [← hv2] at mr ⊢
  have HV1 := hid hv1
  have HV2 := hid hv2
  have ka : Keeps [] w (w.alloc (.cells (r.cells v1 v2).toArray 25)) := (Keeps.refl [] w).alloc _
  have RA := hid (krange_new w (r.cells v1 v2) 25)
  have KA := hid ka
  have HR := hid (hr.keep ka)
  have MR := hid (mr.keep ka (by intro _ _ _ _ _; simp))
  have HB := hid (hb.keep ka (by intro _ _ _ _ _; simp))
  clear hr mr hb ka hv1 hv2
  go_enter Tryz.func3, Tryz.ntmps3
  go_wp2_with (first | (refine wpList_is rfl _ _ (exec_box 25 _ (r.cells v1 v2).toArray rfl rfl) ?_; refine Hid.out ?_) | fail)
  refine hid ?_
  obtain ⟨W, hW⟩ : ∃ z, z = w.alloc (.cells (r.cells v1 v2).toArray 25) := ⟨_, rfl⟩
  obtain ⟨ba, hba⟩ : ∃ z, z = w.heap.size := ⟨_, rfl⟩
  have LTA := hid (show ba < W.heap.size by rw [hba, hW]; simp)
  rw [← hW] at RA KA HR MR HB ⊢
  rw [← hba] at RA ⊢
  clear hW hba
  go_wp2_with fail
  refine (awake16_any W).mono ?_
  rintro e w1 ⟨rfl, k1⟩
  have K1 := hid k1
  have ca6 := Keeps.cell k1 (ask_cell RA.out (show _ = some v1 from rfl)) (by simp) (a := ⟨ba, 6, none⟩)
  have ca7 := Keeps.cell k1 (ask_cell RA.out (show _ = some v2 from rfl)) (by simp) (a := ⟨ba, 7, none⟩)
  rw [HV1.out] at ca6
  rw [HV2.out] at ca7
  clear k1
  have KW := hid (KA.out.trans K1.out)
  by_cases o0 : r.es.length ≤ 100
  case neg =>
    have d0 : decide ((100 : Int) < (r.es.length : Int)) = true := by simp; omega
    go_wp2_with fail
    go_ret
    exact ⟨rfl, KW.out⟩
  have d0 : decide ((100 : Int) < (r.es.length : Int)) = false := by simp; omega
  by_cases o1 : r.mp.length ≤ 2000
  case neg =>
    have d1 : decide ((2000 : Int) < (r.mp.length : Int)) = true := by simp; omega
    go_wp2_with fail
    go_ret
    exact ⟨rfl, KW.out⟩
  have d1 : decide ((2000 : Int) < (r.mp.length : Int)) = false := by simp; omega
  by_cases o2 : bs.length ≤ 4000
  case neg =>
    have d2 : decide ((4000 : Int) < (bs.length : Int)) = true := by simp; omega
    go_wp2_with fail
    go_ret
    exact ⟨rfl, KW.out⟩
  have d2 : decide ((4000 : Int) < (bs.length : Int)) = false := by simp; omega
  have E1 := hid (show r.es.length ≤ 100 by omega)
  have M1 := hid (show r.mp.length ≤ 2000 by omega)
  have B1 := hid (show bs.length ≤ 4000 by omega)
  have hes1 : r.es.length ≤ 100 := E1.out
  clear o0 o1 o2
  go_wp2_with fail
  clear d0 d1 d2 ca7
  have HR1 := hid (HR.out.keep K1.out)
  rw [HV1.out] at HR1
  go_wp2_with fail
  go_loop [5] (fun iv => ∃ i : Nat, iv = .int .i64 (i : Int) ∧ i ≤ r.es.length ∧ Hid (∀ x ∈ r.es.take i, x.nm.size ≤ 100)) (fun iv => r.es.length - (intOf iv).toNat)
  case atStart => exact ⟨0, rfl, by omega, hid (by simp)⟩
  case round =>
    obtain ⟨i, rfl, hi, HN⟩ := hrel
    by_cases hlt : i < r.es.length
    · obtain ⟨g, off, e1, hg, R0⟩ := HR1.out.at i hlt
      subst e1
      obtain ⟨x, hx⟩ : ∃ x, x = r.es[i]'hlt := ⟨_, rfl⟩
      rw [← hx] at R0
      have cn : w1.cell? ⟨g, off + i * 3, none⟩ = some (.string x.nm) := R0 0 _ rfl
      have HX := hid hx
      have HLT := hid hlt
      clear hx R0 hg
      by_cases hn : x.nm.size ≤ 100
      · have dn : decide ((100 : Int) < (x.nm.size : Int)) = false := by simp; omega
        have HNX := hid hn
        clear hn
        go_wp2_with fail
        go_round
        case rel => exact ⟨i + 1, by go_num, by have := HLT.out; omega, hid (by
          rw [List.take_succ_eq_append_getElem HLT.out]
          intro y hy
          rcases List.mem_append.1 hy with hy | hy
          · exact HN.out y hy
          · simp only [List.mem_singleton] at hy; rw [hy, ← HX.out]; exact HNX.out)⟩
        case measure => have := HLT.out; simp [intOf]; omega
      · have dn : decide ((100 : Int) < (x.nm.size : Int)) = true := by simp; omega
        clear hn
        go_wp2_with fail
        go_ret
        exact ⟨rfl, KW.out⟩
    · obtain rfl : i = r.es.length := by omega
      have N1 := hid (show ∀ x ∈ r.es, x.nm.size ≤ 100 by have := HN.out; rwa [List.take_length] at this)
      -- the code's and the reference's bytes
      have MR1 := hid (MR.out.keep K1.out (by intro _ _ _ _ _; simp))
      have RA1 := hid (krange_keep RA.out K1.out (by simp))
      have CV := hid (fun (W2 : World) => lawReply_any W2 r av am r.es.length r.mp.length cv cm)
      rw [← HV1.out, ← HV2.out] at CV
      go_wp2_with (first | (refine wpList_is rfl _ _ (exec_load _ _ _ _ rfl rfl (loadRp 25 urRep srRep _ ba r v1 v2 RA1.out)) ?_) | fail)
      refine (CV.out w1).mono ?_
      rintro e w2 ⟨rfl, k2⟩
      have K2 := hid (K1.out.trans k2)
      clear k2
      go_wp2_with fail
      refine (ntEncR_any w2 r v1 v2 (HR.out.keep K2.out) (MR.out.keep K2.out (by intro _ _ _ _ _; simp)) (by have := M1.out; omega) (fun x hx => by have := N1.out x hx; omega)).mono ?_
      rintro e w3 ⟨k3, a4, c4, rfl, r3, _⟩
      have K3 := hid (K2.out.trans k3)
      obtain ⟨e1, he1⟩ : ∃ z, z = (encP r).2 := ⟨_, rfl⟩
      obtain ⟨bl, hbl⟩ : ∃ z, z = (encP r).1 := ⟨_, rfl⟩
      rw [← hbl] at r3 ⊢
      rw [← he1]
      have R3 := hid r3
      have RA3 := hid (krange_keep RA.out K3.out (by simp))
      have HE1 := hid he1
      have HBL1 := hid hbl
      clear r3 k3 he1 hbl
      go_wp2_with (first | (refine wpList_is rfl _ _ (exec_load _ _ _ _ rfl rfl (loadRp 25 urRep srRep _ ba r v1 v2 RA3.out)) ?_) | fail)
      refine (rnEncR_any w3 r v1 v2 (HR.out.keep K3.out) (MR.out.keep K3.out (by intro _ _ _ _ _; simp)) (by have := M1.out; omega) (fun x hx => by have := N1.out x hx; omega)).mono ?_
      rw [encP_both]
      rintro e w4 ⟨a5, c5, rfl, r5, _, k5⟩
      rw [← HBL1.out] at r5 ⊢
      rw [← HE1.out]
      have K4 := hid (K3.out.trans k5)
      have R4 := hid (R3.out.keep k5 (by intro _ _ _ _ _; simp))
      have S4 := hid r5
      have B4 := hid (HB.out.keep K4.out (by intro _ _ _ _ _; simp))
      have HBL := hid (show bl.length ≤ 60000 from by
        rw [HBL1.out]
        by_cases h : (encP r).2 = 0
        · rw [(encP_ok0 h).1]
          have := rpB_len (r := r) (by have := M1.out; omega) (by have := E1.out; omega) N1.out
          omega
        · rw [show (encP r).1 = [] from encP_bad h]
          exact Nat.zero_le _)
      clear r5 k5
      -- both read the bytes
      obtain ⟨y, hy⟩ : ∃ z, z = decW rpC bs := ⟨_, rfl⟩
      obtain ⟨gr, hgr⟩ : ∃ z, z = (rpC.g (bs, 0)).1 := ⟨_, rfl⟩
      have A5 := hid (decP_any w4 _ bs B4.out (by have := B1.out; omega))
      rw [← hy, ← hgr] at A5
      have HY := hid hy
      have HGR := hid hgr
      clear hy hgr
      go_wp2_with fail
      refine A5.out.mono ?_
      rintro e w5 h5
      obtain ⟨p, hp, aa, cc, bb, dd, rfl, l5, m5, k5⟩ := h5.one
      have HP := hid hp
      have K5 := hid (K4.out.trans k5)
      have R5 := hid (R4.out.keep k5 (by intro _ _ _ _ _; simp))
      have S5 := hid (S4.out.keep k5 (by intro _ _ _ _ _; simp))
      have B5 := hid (B4.out.keep k5 (by intro _ _ _ _ _; simp))
      have LP5 := hid l5
      have MP5 := hid m5
      clear h5 hp l5 m5 k5 A5
      go_wp2_with (first | (refine wpList_is rfl _ _ (exec_alloc 33 (rpZ.cells (.slice none 0 0) (.slice none 0 0)).toArray iRep rfl) ?_) | (refine wpList_noval rfl _ (exec_storeNew 33 _ _ rfl w5 (rpZ.cells (.slice none 0 0) (.slice none 0 0)).toArray (p.cells (.slice aa p.es.length cc) (.slice bb p.mp.length dd)).toArray rfl rfl rfl iRep rfl (all_one (one_rp _ _ _ _ _ _ _))) ?_; refine Hid.out ?_) | fail)
      refine hid ?_
      obtain ⟨w6, hw6⟩ : ∃ z, z = w5.alloc (.cells (p.cells (.slice aa p.es.length cc) (.slice bb p.mp.length dd)).toArray 33) := ⟨_, rfl⟩
      obtain ⟨bp, hbp⟩ : ∃ z, z = w5.heap.size := ⟨_, rfl⟩
      have RP := krange_new w5 (p.cells (.slice aa p.es.length cc) (.slice bb p.mp.length dd)) 33
      rw [← hw6, ← hbp] at RP
      have RP := hid RP
      have LP := hid (show bp < w6.heap.size by rw [hw6, hbp]; simp)
      have k6 : Keeps [] w5 w6 := by rw [hw6]; exact (Keeps.refl [] w5).alloc _
      rw [← hw6, ← hbp]
      clear hw6 hbp
      have K6 := hid (K5.out.trans k6)
      have R6 := hid (R5.out.keep k6 (by intro _ _ _ _ _; simp))
      have S6 := hid (S5.out.keep k6 (by intro _ _ _ _ _; simp))
      have B6 := hid (B5.out.keep k6 (by intro _ _ _ _ _; simp))
      have LP6 := hid (LP5.out.keep k6)
      have MP6 := hid (MP5.out.keep k6 (by intro _ _ _ _ _; simp))
      clear k6
      have A7 := hid (rnDecR_any w6 _ bs B6.out (by have := B1.out; omega))
      rw [← HY.out, ← HGR.out] at A7
      go_wp2_with fail
      refine A7.out.mono ?_
      rintro e w7 h7
      obtain ⟨p2, hp2, aq, cq, bq, dq, rfl, l7, m7, k7⟩ := h7.one
      obtain rfl : p2 = p := by rw [hp2, HP.out]
      have K7 := hid (K6.out.trans k7)
      have R7 := hid (R6.out.keep k7 (by intro _ _ _ _ _; simp))
      have S7 := hid (S6.out.keep k7 (by intro _ _ _ _ _; simp))
      have B7 := hid (B6.out.keep k7 (by intro _ _ _ _ _; simp))
      have LP7 := hid (LP6.out.keep k7)
      have MP7 := hid (MP6.out.keep k7 (by intro _ _ _ _ _; simp))
      have RP7 := hid (krange_keep RP.out k7 (by simp))
      have LPA := hid (Nat.lt_of_lt_of_le LP.out k7.size)
      have LT7 := hid l7
      have MT7 := hid m7
      clear h7 hp2 l7 m7 k7 A7
      go_wp2_with (first | (refine wpList_is rfl _ _ (exec_alloc 25 (rpZ.cells (.slice none 0 0) (.slice none 0 0)).toArray irRep rfl) ?_) | (refine wpList_noval rfl _ (exec_storeNew 25 _ _ rfl w7 (rpZ.cells (.slice none 0 0) (.slice none 0 0)).toArray (p2.cells (.slice aq p2.es.length cq) (.slice bq p2.mp.length dq)).toArray rfl rfl rfl irRep rfl (all_one (one_rp _ _ _ _ _ _ _))) ?_; refine Hid.out ?_) | fail)
      refine hid ?_
      obtain ⟨w8, hw8⟩ : ∃ z, z = w7.alloc (.cells (p2.cells (.slice aq p2.es.length cq) (.slice bq p2.mp.length dq)).toArray 25) := ⟨_, rfl⟩
      obtain ⟨bt, hbt⟩ : ∃ z, z = w7.heap.size := ⟨_, rfl⟩
      have RT := krange_new w7 (p2.cells (.slice aq p2.es.length cq) (.slice bq p2.mp.length dq)) 25
      rw [← hw8, ← hbt] at RT
      have RT := hid RT
      have LT8 := hid (show bt < w8.heap.size by rw [hw8, hbt]; simp)
      have k8 : Keeps [] w7 w8 := by rw [hw8]; exact (Keeps.refl [] w7).alloc _
      rw [← hw8, ← hbt]
      clear hw8 hbt
      have K8 := hid (K7.out.trans k8)
      have R8 := hid (R7.out.keep k8 (by intro _ _ _ _ _; simp))
      have S8 := hid (S7.out.keep k8 (by intro _ _ _ _ _; simp))
      have B8 := hid (B7.out.keep k8 (by intro _ _ _ _ _; simp))
      have LP8 := hid (LP7.out.keep k8)
      have MP8 := hid (MP7.out.keep k8 (by intro _ _ _ _ _; simp))
      have RP8 := hid (krange_keep RP7.out k8 (by simp))
      have LPB := hid (Nat.lt_of_lt_of_le LPA.out k8.size)
      have LT8B := hid (LT7.out.keep k8)
      have MT8 := hid (MT7.out.keep k8 (by intro _ _ _ _ _; simp))
      clear k8
      have PM := hid (show p2.mp.length ≤ 35184372088832 by
        have := mp_short (zs := bs) HB.out.bytes (p := p2) (by rw [HP.out, HY.out, HGR.out])
        have := B1.out
        omega)
      obtain ⟨va, hva⟩ : ∃ z, z = Value.slice aa p2.es.length cc := ⟨_, rfl⟩
      obtain ⟨vb, hvb⟩ : ∃ z, z = Value.slice bb p2.mp.length dd := ⟨_, rfl⟩
      obtain ⟨ua, hua⟩ : ∃ z, z = Value.slice aq p2.es.length cq := ⟨_, rfl⟩
      obtain ⟨ub, hub⟩ : ∃ z, z = Value.slice bq p2.mp.length dq := ⟨_, rfl⟩
      have SV := hid (fun (W2 : World) => lawSaid_any W2 p2 aa bb p2.es.length p2.mp.length cc dd)
      rw [← hva, ← hvb] at SV
      rw [← hva] at RP8 LP8
      rw [← hvb] at RP8 MP8
      rw [← hua] at RT LT8B
      rw [← hub] at RT MT8
      clear hva hvb hua hub
      go_wp2_with fail
      refine wp_region_any (by kernel_rfl) (wpAny_of_held (S := KpS [] w8.heap.size w8.drew) _ _ _ _ ?_)
      change wpAnyH _ _ _ _ _ _ _ _ w8.drew
      have s0 : KpS [] w8.heap.size w8.drew w8.drew := KpS.refl _ _ _
      have cA : ∀ W1, KpS [] w8.heap.size w8.drew W1 → W1.rangeAt bp 0 (p2.cells va vb) := fun W1 h t u hu => h.cell (by rw [World.cell?_drew]; exact RP8.out t u hu) LPB.out (by simp)
      have cB : ∀ W1, KpS [] w8.heap.size w8.drew W1 → W1.rangeAt bt 0 (p2.cells ua ub) := fun W1 h t u hu => h.cell (by rw [World.cell?_drew]; exact RT.out t u hu) LT8.out (by simp)
      refine held_take (i := 0) (v := .int .i64 e1) rfl (by kernel_rfl) (by kernel_rfl) (by kernel_rfl) (fun _ _ _ h => h) rfl (fun W1 hW1 => rfl) (KpS.refl _ _ _) ?_
      simp only [Act.put, List.setIfInBounds_toArray, List.set_cons_zero, List.set_cons_succ]
      refine held_take (i := 1) (v := .int .i64 e1) rfl (by kernel_rfl) (by kernel_rfl) (by kernel_rfl) (fun _ _ _ h => h) rfl (fun W1 hW1 => rfl) (KpS.refl _ _ _) ?_
      simp only [Act.put, List.setIfInBounds_toArray, List.set_cons_zero, List.set_cons_succ]
      refine held_take (i := 2) (v := .bool false) rfl (by kernel_rfl) (by kernel_rfl) (by kernel_rfl) (fun _ _ _ h => h) rfl (fun W1 hW1 => by go_simp) (KpS.refl _ _ _) ?_
      simp only [Act.put, List.setIfInBounds_toArray, List.set_cons_zero, List.set_cons_succ]
      refine held_take (i := 3) (v := .bool false) rfl (by kernel_rfl) (by kernel_rfl) (by kernel_rfl) (fun _ _ _ h => h) rfl (fun W1 hW1 => by go_simp) (KpS.refl _ _ _) ?_
      simp only [Act.put, List.setIfInBounds_toArray, List.set_cons_zero, List.set_cons_succ]
      refine held_takeW (i := 4) (v := .slice a4 bl.length c4) rfl (by kernel_rfl) (by kernel_rfl) (by kernel_rfl) (fun _ _ _ h => h) rfl (fun W1 hW1 => rfl) (KpS.refl _ _ _) ?_
      simp only [Act.put, List.setIfInBounds_toArray, List.set_cons_zero, List.set_cons_succ]
      refine held_takeW (i := 5) (v := .slice a5 bl.length c5) rfl (by kernel_rfl) (by kernel_rfl) (by kernel_rfl) (fun _ _ _ h => h) rfl (fun W1 hW1 => rfl) (KpS.refl _ _ _) ?_
      simp only [Act.put, List.setIfInBounds_toArray, List.set_cons_zero, List.set_cons_succ]
      refine held_doW (i := 6) (by kernel_rfl) rfl rfl (wp_enter (f := 10) (args := #[.slice a4 bl.length c4, .slice a5 bl.length c5]) (by go_simp) (same_any _ _ _ bl bl (R8.out.keep (Keeps.refl [] w8).drew (by intro _ _ _ _ _; simp)) (S8.out.keep (Keeps.refl [] w8).drew (by intro _ _ _ _ _; simp)) (by have := HBL.out; omega) (by have := HBL.out; omega)) ?_)
      rintro e y1 ⟨rfl, n1, e1'⟩
      have k1 : Keeps [] w8.drew y1 := by rw [e1']; exact (Keeps.refl [] w8.drew).drewN n1
      have s1 : KpS [] w8.heap.size w8.drew y1 := s0.keeps k1 s0.size (by simp)
      have h1 : Keeps [] w8 y1 := (Keeps.refl [] w8).drew.trans k1
      clear e1'
      rw [show decide (bl = bl) = true from decide_eq_true rfl]
      refine ⟨_, rfl, s1, ?_⟩
      simp only [Act.put, List.setIfInBounds_toArray, List.set_cons_zero, List.set_cons_succ]
      refine held_takeW (i := 7) (v := .bool false) rfl (by kernel_rfl) (by kernel_rfl) (by kernel_rfl) (fun _ _ _ h => h) rfl (fun W1 hW1 => by go_simp) (s1) ?_
      simp only [Act.put, List.setIfInBounds_toArray, List.set_cons_zero, List.set_cons_succ]
      refine held_take (i := 8) (v := .bool false) rfl (by kernel_rfl) (by kernel_rfl) (by kernel_rfl) (fun _ _ _ h => h) rfl (fun W1 hW1 => by go_simp) (s1) ?_
      simp only [Act.put, List.setIfInBounds_toArray, List.set_cons_zero, List.set_cons_succ]
      refine held_take (i := 9) (v := .bool false) rfl (by kernel_rfl) (by kernel_rfl) (by kernel_rfl) (fun _ _ _ h => h) rfl (fun W1 hW1 => by go_simp) (s1) ?_
      simp only [Act.put, List.setIfInBounds_toArray, List.set_cons_zero, List.set_cons_succ]
      refine held_takeW (i := 10) (v := .int .i64 y) rfl (by kernel_rfl) (by kernel_rfl) (by kernel_rfl) (fun _ _ _ h => h) rfl (fun W1 hW1 => rfl) (s1) ?_
      simp only [Act.put, List.setIfInBounds_toArray, List.set_cons_zero, List.set_cons_succ]
      refine held_takeW (i := 11) (v := .int .i64 y) rfl (by kernel_rfl) (by kernel_rfl) (by kernel_rfl) (fun _ _ _ h => h) rfl (fun W1 hW1 => rfl) (s1) ?_
      simp only [Act.put, List.setIfInBounds_toArray, List.set_cons_zero, List.set_cons_succ]
      refine held_takeW (i := 12) (v := .bool false) rfl (by kernel_rfl) (by kernel_rfl) (by kernel_rfl) (fun _ _ _ h => h) rfl (fun W1 hW1 => by go_simp) (s1) ?_
      simp only [Act.put, List.setIfInBounds_toArray, List.set_cons_zero, List.set_cons_succ]
      refine held_take (i := 13) (v := .bool false) rfl (by kernel_rfl) (by kernel_rfl) (by kernel_rfl) (fun _ _ _ h => h) rfl (fun W1 hW1 => by go_simp) (s1) ?_
      simp only [Act.put, List.setIfInBounds_toArray, List.set_cons_zero, List.set_cons_succ]
      refine held_take (i := 14) (v := .bool false) rfl (by kernel_rfl) (by kernel_rfl) (by kernel_rfl) (fun _ _ _ h => h) rfl (fun W1 hW1 => by go_simp) (s1) ?_
      simp only [Act.put, List.setIfInBounds_toArray, List.set_cons_zero, List.set_cons_succ]
      refine held_takeW (i := 15) (v := rpV p2 va vb) rfl (by kernel_rfl) (by kernel_rfl) (by kernel_rfl) (fun _ _ _ h => h) rfl (fun W1 hW1 => exec_load _ _ _ _ rfl rfl (loadRp 33 uRep sRep W1 bp p2 va vb (cA W1 hW1))) (s1) ?_
      simp only [Act.put, List.setIfInBounds_toArray, List.set_cons_zero, List.set_cons_succ]
      refine held_takeW (i := 17) (v := rpV p2 ua ub) rfl (by kernel_rfl) (by kernel_rfl) (by kernel_rfl) (fun _ _ _ h => h) rfl (fun W1 hW1 => exec_load _ _ _ _ rfl rfl (loadRp 25 urRep srRep W1 bt p2 ua ub (cB W1 hW1))) (s1) ?_
      simp only [Act.put, List.setIfInBounds_toArray, List.set_cons_zero, List.set_cons_succ]
      refine held_doW (i := 16) (by kernel_rfl) rfl rfl (wp_enter (f := 12) (args := #[rpV p2 va vb]) (by go_simp) (SV.out y1) ?_)
      rintro e y2 ⟨rfl, k2⟩
      have s2 : KpS [] w8.heap.size w8.drew y2 := s1.keeps k2 s1.size (by simp)
      have h2 : Keeps [] w8 y2 := h1.trans k2
      refine ⟨_, rfl, s2, ?_⟩
      simp only [Act.put, List.setIfInBounds_toArray, List.set_cons_zero, List.set_cons_succ]
      refine held_doW (i := 18) (by kernel_rfl) rfl rfl (wp_enter (f := 11) (args := #[rpV p2 va vb, rpV p2 ua ub]) (by go_simp) (sameR_any y2 p2 p2 va vb ua ub (LP8.out.keep h2) (LT8B.out.keep h2) (MP8.out.keep h2 (by intro _ _ _ _ _; simp)) (MT8.out.keep h2 (by intro _ _ _ _ _; simp)) PM.out PM.out) ?_)
      rintro e y3 ⟨z3, rfl, hz3, k3⟩
      obtain rfl : z3 = true := hz3.2 rfl
      have s3 : KpS [] w8.heap.size w8.drew y3 := s2.keeps k3 s2.size (by simp)
      have h3 : Keeps [] w8 y3 := h2.trans k3
      refine ⟨_, rfl, s3, ?_⟩
      simp only [Act.put, List.setIfInBounds_toArray, List.set_cons_zero, List.set_cons_succ]
      refine held_takeW (i := 19) (v := .bool false) rfl (by kernel_rfl) (by kernel_rfl) (by kernel_rfl) (fun _ _ _ h => h) rfl (fun W1 hW1 => by go_simp) (s3) ?_
      simp only [Act.put, List.setIfInBounds_toArray, List.set_cons_zero, List.set_cons_succ]
      refine held_take (i := 20) (v := .bool false) rfl (by kernel_rfl) (by kernel_rfl) (by kernel_rfl) (fun _ _ _ h => h) rfl (fun W1 hW1 => by go_simp) (s3) ?_
      simp only [Act.put, List.setIfInBounds_toArray, List.set_cons_zero, List.set_cons_succ]
      refine wpAnyH_done (by kernel_rfl) ?_ _
      have KE := hid (K8.out.trans h3)
      have R9 := hid (R8.out.keep h3 (by intro _ _ _ _ _; simp))
      have RA9 := hid (krange_keep RA.out KE.out (by simp))
      clear cA cB s0 s1 s2 s3 k1 k2 k3 h1 h2 h3 hz3
      have ca0 := ask_cell RA9.out (show _ = some (.int .i64 r.e) from rfl) (j := 0)
      by_cases z1 : e1 = 0
      case neg =>
        have f1 : (e1 == 0) = false := by simpa using z1
        clear z1
        go_wp2_with fail
        go_ret
        exact ⟨rfl, KA.out.trans KE.out⟩
      have f1 : (e1 == 0) = true := by simpa using z1
      by_cases z2 : r.e ≤ 18
      case neg =>
        have f2 : decide (r.e ≤ 18) = false := by simpa using z2
        clear z1 z2
        go_wp2_with fail
        go_ret
        exact ⟨rfl, KA.out.trans KE.out⟩
      have f2 : decide (r.e ≤ 18) = true := by simpa using z2
      obtain ⟨hb1, fr⟩ := encP_ok (r := r) (by rw [← HE1.out]; exact z1) z2
      obtain ⟨d0, d1⟩ := dec_b rpC_ok fr
      have BL : bl = rpC.b r := by rw [HBL1.out, hb1]
      rw [← BL] at d0 d1
      have AA := hid (decP_any y3 _ bl R9.out (by have := HBL.out; omega))
      rw [d0, d1] at AA
      clear z1 z2 hb1 fr d0 d1 BL
      go_wp2_with fail
      clear ca0
      refine AA.out.mono ?_
      rintro e wA hA
      obtain ⟨p3, hp3, ax, cx, bx, dx, rfl, lA, mA, kA⟩ := hA.one
      rw [if_pos rfl] at hp3
      subst hp3
      have KAA := hid (KE.out.trans kA)
      have LA := hid lA
      have MA := hid mA
      clear hA lA mA kA AA
      go_wp2_with (first | (refine wpList_is rfl _ _ (exec_alloc 33 (rpZ.cells (.slice none 0 0) (.slice none 0 0)).toArray iRep rfl) ?_) | (refine wpList_noval rfl _ (exec_storeNew 33 _ _ rfl wA (rpZ.cells (.slice none 0 0) (.slice none 0 0)).toArray (p3.cells (.slice ax p3.es.length cx) (.slice bx p3.mp.length dx)).toArray rfl rfl rfl iRep rfl (all_one (one_rp _ _ _ _ _ _ _))) ?_; refine Hid.out ?_) | fail)
      refine hid ?_
      obtain ⟨wB, hwB⟩ : ∃ z, z = wA.alloc (.cells (p3.cells (.slice ax p3.es.length cx) (.slice bx p3.mp.length dx)).toArray 33) := ⟨_, rfl⟩
      obtain ⟨bz, hbz⟩ : ∃ z, z = wA.heap.size := ⟨_, rfl⟩
      have RZ := krange_new wA (p3.cells (.slice ax p3.es.length cx) (.slice bx p3.mp.length dx)) 33
      rw [← hwB, ← hbz] at RZ
      have RZ := hid RZ
      have LZ := hid (show bz < wB.heap.size by rw [hwB, hbz]; simp)
      have kB : Keeps [] wA wB := by rw [hwB]; exact (Keeps.refl [] wA).alloc _
      rw [← hwB, ← hbz]
      clear hwB hbz
      have KB := hid (KAA.out.trans kB)
      have LB := hid (LA.out.keep kB)
      have MB := hid (MA.out.keep kB (by intro _ _ _ _ _; simp))
      have RAB := hid (krange_keep RA.out KB.out (by simp))
      have LTB := hid (Nat.lt_of_lt_of_le LTA.out KB.out.size)
      have HRB := hid (HR.out.keep KB.out)
      have MRB := hid (MR.out.keep KB.out (by intro _ _ _ _ _; simp))
      clear kB
      obtain ⟨va, hva⟩ : ∃ z, z = Value.slice ax p3.es.length cx := ⟨_, rfl⟩
      obtain ⟨vb, hvb⟩ : ∃ z, z = Value.slice bx p3.mp.length dx := ⟨_, rfl⟩
      have SV := hid (fun (W2 : World) => lawSaid_any W2 p3 ax bx p3.es.length p3.mp.length cx dx)
      rw [← hva, ← hvb] at SV
      rw [← hva] at RZ LB
      rw [← hvb] at RZ MB
      clear hva hvb
      go_wp2_with fail
      refine wp_region_any (by kernel_rfl) (wpAny_of_held (S := KpS [] wB.heap.size wB.drew) _ _ _ _ ?_)
      change wpAnyH _ _ _ _ _ _ _ _ wB.drew
      have s0 : KpS [] wB.heap.size wB.drew wB.drew := KpS.refl _ _ _
      have cA : ∀ W1, KpS [] wB.heap.size wB.drew W1 → W1.rangeAt bz 0 (p3.cells va vb) := fun W1 h t u hu => h.cell (by rw [World.cell?_drew]; exact RZ.out t u hu) LZ.out (by simp)
      have cB : ∀ W1, KpS [] wB.heap.size wB.drew W1 → W1.rangeAt ba 0 (p3.cells v1 v2) := fun W1 h t u hu => h.cell (by rw [World.cell?_drew]; exact RAB.out t u hu) LTB.out (by simp)
      refine held_take (i := 0) (v := .int .i64 0) rfl (by kernel_rfl) (by kernel_rfl) (by kernel_rfl) (fun _ _ _ h => h) rfl (fun W1 hW1 => rfl) (KpS.refl _ _ _) ?_
      simp only [Act.put, List.setIfInBounds_toArray, List.set_cons_zero, List.set_cons_succ]
      refine held_take (i := 1) (v := .bool true) rfl (by kernel_rfl) (by kernel_rfl) (by kernel_rfl) (fun _ _ _ h => h) rfl (fun W1 hW1 => by go_simp) (KpS.refl _ _ _) ?_
      simp only [Act.put, List.setIfInBounds_toArray, List.set_cons_zero, List.set_cons_succ]
      refine held_take (i := 2) (v := .bool true) rfl (by kernel_rfl) (by kernel_rfl) (by kernel_rfl) (fun _ _ _ h => h) rfl (fun W1 hW1 => by go_simp) (KpS.refl _ _ _) ?_
      simp only [Act.put, List.setIfInBounds_toArray, List.set_cons_zero, List.set_cons_succ]
      refine held_takeW (i := 3) (v := rpV p3 va vb) rfl (by kernel_rfl) (by kernel_rfl) (by kernel_rfl) (fun _ _ _ h => h) rfl (fun W1 hW1 => exec_load _ _ _ _ rfl rfl (loadRp 33 uRep sRep W1 bz p3 va vb (cA W1 hW1))) (KpS.refl _ _ _) ?_
      simp only [Act.put, List.setIfInBounds_toArray, List.set_cons_zero, List.set_cons_succ]
      refine held_takeW (i := 5) (v := rpV p3 v1 v2) rfl (by kernel_rfl) (by kernel_rfl) (by kernel_rfl) (fun _ _ _ h => h) rfl (fun W1 hW1 => exec_load _ _ _ _ rfl rfl (loadRp 25 urRep srRep W1 ba p3 v1 v2 (cB W1 hW1))) (KpS.refl _ _ _) ?_
      simp only [Act.put, List.setIfInBounds_toArray, List.set_cons_zero, List.set_cons_succ]
      refine held_doW (i := 4) (by kernel_rfl) rfl rfl (wp_enter (f := 12) (args := #[rpV p3 va vb]) (by go_simp) (SV.out wB.drew) ?_)
      rintro e y2 ⟨rfl, k2⟩
      have s2 : KpS [] wB.heap.size wB.drew y2 := s0.keeps k2 s0.size (by simp)
      have h2 : Keeps [] wB y2 := (Keeps.refl [] wB).drew.trans k2
      refine ⟨_, rfl, s2, ?_⟩
      simp only [Act.put, List.setIfInBounds_toArray, List.set_cons_zero, List.set_cons_succ]
      refine held_doW (i := 6) (by kernel_rfl) rfl rfl (wp_enter (f := 11) (args := #[rpV p3 va vb, rpV p3 v1 v2]) (by go_simp) (sameR_any y2 p3 p3 va vb v1 v2 (LB.out.keep h2) (HRB.out.keep h2) (MB.out.keep h2 (by intro _ _ _ _ _; simp)) (MRB.out.keep h2 (by intro _ _ _ _ _; simp)) (by have := M1.out; omega) (by have := M1.out; omega)) ?_)
      rintro e y4 ⟨z3, rfl, hz3, k3⟩
      obtain rfl : z3 = true := hz3.2 rfl
      have s3 : KpS [] wB.heap.size wB.drew y4 := s2.keeps k3 s2.size (by simp)
      have h3 : Keeps [] wB y4 := h2.trans k3
      refine ⟨_, rfl, s3, ?_⟩
      simp only [Act.put, List.setIfInBounds_toArray, List.set_cons_zero, List.set_cons_succ]
      refine held_take (i := 7) (v := .bool true) rfl (by kernel_rfl) (by kernel_rfl) (by kernel_rfl) (fun _ _ _ h => h) rfl (fun W1 hW1 => by go_simp) (s3) ?_
      simp only [Act.put, List.setIfInBounds_toArray, List.set_cons_zero, List.set_cons_succ]
      refine held_take (i := 8) (v := .bool true) rfl (by kernel_rfl) (by kernel_rfl) (by kernel_rfl) (fun _ _ _ h => h) rfl (fun W1 hW1 => by go_simp) (s3) ?_
      simp only [Act.put, List.setIfInBounds_toArray, List.set_cons_zero, List.set_cons_succ]
      refine wpAnyH_done (by kernel_rfl) ?_ _
      have KZ := hid (KB.out.trans h3)
      clear cA cB s0 s2 s3 k2 k3 h2 h3 hz3
      go_wp2_with fail
      go_ret
      exact ⟨rfl, KA.out.trans KZ.out⟩
end Go.Proofs.YtoglcohdanpciaaGreat
