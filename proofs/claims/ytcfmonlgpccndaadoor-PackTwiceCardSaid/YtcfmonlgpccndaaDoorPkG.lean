/- pack: lay: stripes with the blocks' bytes, and of each block where they are. -/
import Derived.Test.YtcfmonlgpccndaaDoorPkF
import Derived.Test.YtcfmonlgpccndaaDoorPkG22
namespace Go.Proofs.YtcfmonlgpccndaaDoor
open Go.RowKit Go.Shelf
set_option maxRecDepth 100000
set_option linter.unusedSimpArgs false
set_option linter.unusedVariables false

theorem made_pts (n : Nat) : (madeCells (ptV pZ).cells (n * 5)).toList = pcells (List.replicate n pZ) := by
  have e : (ptV pZ).cells = #[.int .i64 0, .int .i64 0, .int .i64 0, .int .i64 0, .int .i64 0] := rfl
  rw [e]
  apply List.ext_getElem?
  intro j
  have hsz : (#[Value.int .i64 0, .int .i64 0, .int .i64 0, .int .i64 0, .int .i64 0] : Array Value).size = 5 := rfl
  simp only [madeCells, Array.toList_map, Array.toList_range, List.getElem?_map, hsz]
  by_cases h : j < n * 5
  · rw [List.getElem?_range h]
    have hi : j / 5 < n := by omega
    have hj : j % 5 < 5 := Nat.mod_lt _ (by omega)
    have e2 := pcells_in (List.replicate n pZ) (j / 5) (by simpa using hi) (j % 5) hj
    rw [show j / 5 * 5 + j % 5 = j by omega] at e2
    rw [e2, List.getElem_replicate, Option.map_some]
    generalize j % 5 = k at hj
    match k, hj with
    | 0, _ => rfl
    | 1, _ => rfl
    | 2, _ => rfl
    | 3, _ => rfl
    | 4, _ => rfl
  · rw [List.getElem?_eq_none (by simpa using h), List.getElem?_eq_none (by rw [pcells_length]; simpa using h)]
    rfl
theorem make_pts (w : World) (n : Nat) (hn : n ≤ 1000) : ∃ w', (Instr.makeSlice 57 (.int .i64 (n : Int)) (.int .i64 (n : Int))).run Tryd.prog w = .ok (.slice (some ⟨w.heap.size, 0, none⟩) n n) w' ∧ OwnP w' w.heap.size [] (.slice (some ⟨w.heap.size, 0, none⟩) n n) (List.replicate n pZ) ∧ Keeps [] w w' := by
  obtain ⟨i, hi, hz, hz5, hz40⟩ := info_parts iPtr
  obtain ⟨w', hr, ho, hg⟩ := run_make_full (P := Tryd.prog) w w.heap.size 57 36 i _ 5 Tryd.underlying57 hi hz hz5 .i64 .i64 n (by rw [hz40]; omega) (by unfold maxLen; omega) (Nat.le_refl _)
  rw [made_pts] at ho
  refine ⟨w', hr, ⟨?_, by simp⟩, (Keeps.refl _ _).grown hg (by simp)⟩
  rw [List.length_replicate]
  exact ho
theorem exec_mkP {ρ : Operand → Value} {o : Oper} {w w' : World} {z : Value} (t : TypeId) (x y : Operand) (u v : Value) (ho : o.op = .makeSlice t x y) (hx : ρ x = u) (hy : ρ y = v) (h : (Instr.makeSlice t u v).run Tryd.prog w = .ok z w') :
    (execOp ρ o).run Tryd.prog w = .ok (.value z) w' := by
  simp only [execOp, ho, hx, hy, Sem.run_bind, h, Result.andThen_ok, Sem.run_pure]
def LayPost (w : World) (f : Spe) (n : Int) (l : List Db) (e : Ending) (w' : World) : Prop :=
  ∃ va vp, e = .returned (.tuple #[va, vp]) ∧ FlsAt w' va (layF f (mostI n) (bsOf l) l.length) ∧ PtsAt w' [] vp (ptrsL f (mostI n) (bsOf l) l.length) ∧ Keeps [] w w'
theorem ptrs_next {f : Spe} {m : Int} {bs : List (List Int)} {k n : Nat} (hk : k < n) : (ptrsL f m bs k ++ List.replicate (n - k) pZ).set k (ptrK f m bs k) = ptrsL f m bs (k + 1) ++ List.replicate (n - (k + 1)) pZ := by
  have e : n - k = (n - (k + 1)) + 1 := by omega
  rw [e, List.replicate_succ, List.set_append_right _ _ (by rw [ptrs_len]; exact Nat.le_refl _), ptrs_len, Nat.sub_self, List.set_cons_zero, ptrs_succ]
  simp
theorem ptrs_stay {f : Spe} {m : Int} {bs : List (List Int)} {k n : Nat} (hk : k < n) (h : ptrK f m bs k = pZ) : ptrsL f m bs k ++ List.replicate (n - k) pZ = ptrsL f m bs (k + 1) ++ List.replicate (n - (k + 1)) pZ := by
  have e : n - k = (n - (k + 1)) + 1 := by omega
  rw [e, List.replicate_succ, ptrs_succ, h]
  simp
theorem own_keep9 {w w' : World} {B : Nat} {g n c : Nat} {ps : List Pt} {S : List Nat} (h : OwnP w B [] (.slice (some ⟨g, 0, none⟩) n c) ps) (k : Keeps S w w') (hs : g ∉ S) : OwnP w' B [] (.slice (some ⟨g, 0, none⟩) n c) ps :=
  ⟨ownsRow_keepP h.row k (fun b hb hm => by simp [Value.ownBlock] at hb; subst hb; exact hs hm), h.lt⟩
set_option maxHeartbeats 12800000 in
theorem pLay_any (w : World) (f : Spe) (n : Int) (v : Value) (xs : List Dr) (hv : DsAt w v xs) (hl : xs.length ≤ 64) (hb : ∀ x ∈ xs, x.d.length ≤ 64) (n3 : 3 ≤ n) (n16 : n ≤ 16) (f0 : 0 ≤ f.n) (f1 : f.n ≤ 1073741824) :
    Calls Tryd.prog 27 #[.agg #[.int .i64 f.c, .int .i64 f.l, .int .i64 f.n], .int .i64 n, v] w (LayPost w f n (dbs xs)) := by
  obtain ⟨a, c, rfl⟩ := hv.shape
  obtain ⟨w3, hw3⟩ : ∃ x, x = ((w.alloc (.cells #[.int .i64 f.c, .int .i64 f.l, .int .i64 f.n] 29)).alloc (.cells #[.int .i64 n] 3)).alloc (.cells #[.slice none 0 0] 23) := ⟨_, rfl⟩
  have HW3 := hid hw3
  have k1 : Keeps [] w (w.alloc (.cells #[.int .i64 f.c, .int .i64 f.l, .int .i64 f.n] 29)) := (Keeps.refl [] w).alloc _
  have k3 : Keeps [] w w3 := by rw [hw3]; exact (k1.alloc _).alloc _
  have b0 : w3.heap[w.heap.size]? = some (.cells #[.int .i64 f.c, .int .i64 f.l, .int .i64 f.n] 29 (0, 0)) := by
    rw [hw3]
    exact ((((Keeps.refl [] _).alloc _).alloc _).block w.heap.size (by simp) (by simp)).trans (heap_alloc_new w _)
  have b1 : w3.heap[w.heap.size + 1]? = some (.cells #[.int .i64 n] 3 (0, 0)) := by
    rw [hw3]
    have := heap_alloc_new (w.alloc (.cells #[.int .i64 f.c, .int .i64 f.l, .int .i64 f.n] 29)) (.cells #[.int .i64 n] 3)
    rw [World.size_alloc] at this
    exact (((Keeps.refl [] _).alloc _).block (w.heap.size + 1) (by simp) (by simp)).trans this
  have b2 : w3.heap[w.heap.size + 2]? = some (.cells #[.slice none 0 0] 23 (0, 0)) := by
    rw [hw3]
    have := heap_alloc_new ((w.alloc (.cells #[.int .i64 f.c, .int .i64 f.l, .int .i64 f.n] 29)).alloc (.cells #[.int .i64 n] 3)) (.cells #[.slice none 0 0] 23)
    rw [World.size_alloc, World.size_alloc] at this
    exact this
  have s3 : w3.heap.size = w.heap.size + 3 := by rw [hw3]; simp
  obtain ⟨w4, hrun4, o4, k4⟩ := make_pts w3 xs.length (by omega)
  rw [s3] at hrun4 o4
  have mk4 := hrun4
  rw [hw3] at mk4
  have s4 : w.heap.size + 4 ≤ w4.heap.size := by
    have := (o4.blk (w.heap.size + 3) rfl).2
    omega
  have HL0 := hid (show LaySt w4 (w.heap.size + 4) [] (w.heap.size + 1 + 1) (w.heap.size + 1) w.heap.size f n (.slice none 0 0) [] from
    ⟨(k4.block _ (lt_of_block b2) (by simp)).trans b2, FsIn.nil _ _ _, by simpa using (k4.block _ (lt_of_block b0) (by simp)).trans b0, (k4.block _ (lt_of_block b1) (by simp)).trans b1, by omega, by omega, by omega, by omega, by omega, by omega, by simp, s4⟩)
  have O4 := hid o4
  have K4 := hid (k3.trans k4)
  have HV := hid hv
  have HXL := hid hl
  have HB := hid hb
  have HN := hid (And.intro (And.intro n3 n16) (And.intro f0 f1))
  have HGF := hid (fun k => good_lay (f := f) (m := mostI n) (bs := bsOf (dbs xs)) (fun k => by
    rw [bsOf_get]
    by_cases h : k < xs.length
    · rw [dbs_get h]; exact hb _ (List.getElem_mem h)
    · rw [List.getD_eq_getElem?_getD, List.getElem?_eq_none (by rw [dbs_len]; omega)]; simp [default, instInhabitedDb.default]) (by unfold mostI; omega) k)
  clear hw3 k1 k3 b0 b1 b2 s3 hrun4 o4 k4 s4 hv hb n3 n16 f0 f1
  go_enter Tryd.func27, Tryd.ntmps27
  go_wp2_with fail
  clear mk4
  go_loopw [20] (fun iv wr => ∃ (k : Nat) (M : List Nat) (fv : Value) (fs : List Fr), iv = .int .i64 k ∧ k ≤ xs.length ∧ Hid (LaySt wr (w.heap.size + 4) M (w.heap.size + 1 + 1) (w.heap.size + 1) w.heap.size f n fv fs) ∧ Hid (fls fs = layF f (mostI n) (bsOf (dbs xs)) k) ∧ Hid (OwnP wr (w.heap.size + 3) [] (.slice (some ⟨w.heap.size + 3, 0, none⟩) xs.length xs.length) (ptrsL f (mostI n) (bsOf (dbs xs)) k ++ List.replicate (xs.length - k) pZ)) ∧ Hid (Keeps [] w wr)) (fun iv _ => xs.length - (intOf iv).toNat)
  case atStart => exact ⟨0, [], _, [], rfl, Nat.zero_le _, HL0, hid rfl, hid (by simpa [ptrsL] using O4.out), K4⟩
  case round =>
    obtain ⟨k, M, fv, fs, rfl, hk, HL, HF, HO, HK⟩ := hrel
    have lt0 : w.heap.size + 4 ≤ wr.heap.size := HL.out.hB
    by_cases hlt : k < xs.length
    · obtain ⟨g, off, rfl, hg, D⟩ := (HV.out.keep HK.out).at k hlt
      have HBK := hid (show (bsOf (dbs xs)).getD k [] = xs[k].d by rw [bsOf_get, dbs_get hlt]; rfl)
      have hd64 := HB.out _ (List.getElem_mem hlt)
      obtain ⟨x, hx⟩ : ∃ x, x = xs[k] := ⟨_, rfl⟩
      rw [← hx] at D HBK hd64
      clear hx
      obtain ⟨a', c', hr, _⟩ := id D.row
      obtain ⟨bb, br, bd⟩ := x
      simp only at hr HBK hd64
      subst hr
      have HD := hid D
      have H1 := hid (dt_one D.row)
      obtain ⟨w1, hw1⟩ : ∃ z, z = wr.alloc (.cells #[.int .i64 bb, .slice a' bd.length c'] 33) := ⟨_, rfl⟩
      have HW1 := hid hw1
      have KA := hid (show Keeps [] wr w1 by rw [hw1]; exact (Keeps.refl [] wr).alloc _)
      obtain ⟨cb, cr⟩ := block_cells2 (show w1.heap[wr.heap.size]? = some (.cells #[.int .i64 bb, .slice a' bd.length c'] 33 (0, 0)) by rw [hw1]; exact heap_alloc_new wr _)
      have HT := hid (pTrim_any w1 (.slice a' bd.length c') bd (D.row.keep KA.out (by intro _ _ _ _ _; simp)) (by omega))
      have htl := trim_le bd
      obtain ⟨tl, htl2⟩ : ∃ tl, tl = trimL bd := ⟨_, rfl⟩
      rw [← htl2] at HT htl
      have HTL := hid htl2
      clear D hw1 cb htl2 hg
      by_cases h0 : tl.length = 0
      · have NX := hid (show layF f (mostI n) (bsOf (dbs xs)) (k + 1) = layF f (mostI n) (bsOf (dbs xs)) k by
          conv => lhs; unfold layF
          rw [HBK.out, ← HTL.out, if_pos h0])
        have NP := hid (show ptrK f (mostI n) (bsOf (dbs xs)) k = pZ by unfold ptrK; rw [HBK.out, ← HTL.out, if_pos h0])
        go_wp2_with (first | (refine wpList_is rfl _ _ (exec_load _ _ _ _ rfl rfl (loadDt _ g (off + k * 2) _ HD.out.rg)) ?_) | (refine wpList_is rfl _ _ (exec_alloc 33 dzA iDirty2 rfl) ?_) | (refine wpList_noval rfl _ (exec_storeNew 33 _ _ rfl wr dzA #[.int .i64 bb, .slice a' bd.length c'] rfl rfl rfl iDirty2 rfl H1.out) ?_; rw [← HW1.out]) | fail)
        refine HT.out.mono ?_
        rintro e w2 ⟨a3, c3, rfl, r3, n3, k3⟩
        have K3 := hid (KA.out.trans k3)
        clear r3 n3 k3
        rw [h0]
        go_wp2_with fail
        go_roundw
        case rel => exact ⟨k + 1, M, fv, fs, by go_num, by omega, hid (HL.out.later K3.out (by simp)), hid (by rw [NX.out]; exact HF.out), hid (by rw [← ptrs_stay hlt NP.out]; exact own_keep9 HO.out K3.out (by simp)), hid (HK.out.trans K3.out)⟩
        case measure => simp [intOf]; omega
      · have NX := hid (show layF f (mostI n) (bsOf (dbs xs)) (k + 1) = putF f (mostI n) (layF f (mostI n) (bsOf (dbs xs)) k) tl by
          conv => lhs; unfold layF
          rw [HBK.out, ← HTL.out, if_neg h0])
        obtain ⟨pk, hpk⟩ : ∃ p, p = ptrK f (mostI n) (bsOf (dbs xs)) k := ⟨_, rfl⟩
        have HPK := hid hpk
        have NP := hid (show pk = ptrF f (mostI n) (layF f (mostI n) (bsOf (dbs xs)) k) tl by rw [hpk]; unfold ptrK; rw [HBK.out, ← HTL.out, if_neg h0])
        clear hpk
        have dp : decide ((0 : Int) < (tl.length : Int)) = true := by simp; omega
        have dp2 : decide (0 < tl.length) = true := by simp; omega
        have H0 := hid h0
        clear h0
        go_wp2_with (first | (refine wpList_is rfl _ _ (exec_load _ _ _ _ rfl rfl (loadDt _ g (off + k * 2) _ HD.out.rg)) ?_) | (refine wpList_is rfl _ _ (exec_alloc 33 dzA iDirty2 rfl) ?_) | (refine wpList_noval rfl _ (exec_storeNew 33 _ _ rfl wr dzA #[.int .i64 bb, .slice a' bd.length c'] rfl rfl rfl iDirty2 rfl H1.out) ?_; rw [← HW1.out]) | fail)
        refine HT.out.mono ?_
        rintro e w2 ⟨a3, c3, rfl, r3, n3, k3⟩
        have K3 := hid (KA.out.trans k3)
        have R3 := hid r3
        have N3 := hid n3
        clear r3 n3 k3
        go_wp2_with fail
        have HL2 := hid (HL.out.later K3.out (by simp))
        have hfs := congrArg List.length HF.out
        rw [fls_len] at hfs
        have hfl : fs.length ≤ 64 := by have := lay_le f (mostI n) (bsOf (dbs xs)) k; omega
        have hfd : ∀ y ∈ fs, y.d.length ≤ 6000 := fun y hy => by
          obtain ⟨i, hi, rfl⟩ := List.getElem_of_mem hy
          have h2 : i < (fls fs).length := by rw [fls_len]; exact hi
          have e2 : (fls fs)[i] = fs[i].fl := fls_get h2
          have h3 := (HGF.out k).few
          rw [← HF.out] at h3
          have h4 := h3 i h2
          rw [e2] at h4
          have : mostI n ≤ 6000 := by have := HN.out.1.2; unfold mostI; omega
          show fs[i].fl.d.length ≤ 6000
          omega
        refine (layF_any w2 (w.heap.size + 4) M (w.heap.size + 1 + 1) (w.heap.size + 1) w.heap.size f n fv fs _ tl HL2.out R3.out (fun ad m c e hne hm => by
          injection e with e1
          have h1 := N3.out ad e1
          have h2 := KA.out.size
          simp at hm
          rcases hm with hm | hm | hm
          · omega
          · omega
          · have := HL.out.fs.low _ hm; omega) (by omega) hfl hfd HN.out.1.1 HN.out.1.2 HN.out.2.1 HN.out.2.2).mono ?_
        rintro e w5 ⟨v5, M5, fs5, rfl, l5, f5, k5, m5⟩
        rw [HF.out] at f5
        rw [HF.out, ← NP.out]
        have hgp : w.heap.size + 3 ∉ (w.heap.size + 1 + 1) :: w.heap.size :: M := fun hm => by
          simp at hm
          rcases hm with hm
          have := HL.out.hM _ hm
          omega
        have O5 := own_keep9 (own_keep9 HO.out K3.out (by simp)) k5 hgp
        obtain ⟨gg, cap, cur, e6, _, hb6, _, hfit, hset⟩ := own_set O5 k (by simp [ptrs_len]; omega)
        injection e6 with e6 e7 e8
        clear e7 e8
        injection e6 with e6
        injection e6 with e6 e7
        subst e6
        obtain ⟨s1, s2⟩ := setRow_keepsP (cs := (cur.toList.take (k * 5) ++ pk.cells ++ cur.toList.drop (k * 5 + 5)).toArray) hb6
        have O6 := hset _ _ s1
        rw [show (ptrsL f (mostI n) (bsOf (dbs xs)) k ++ List.replicate (xs.length - k) pZ).set k pk = ptrsL f (mostI n) (bsOf (dbs xs)) (k + 1) ++ List.replicate (xs.length - (k + 1)) pZ by rw [HPK.out]; exact ptrs_next hlt] at O6
        have HO6 := hid O6
        have HL6 := hid (l5.later s2 (fun b hb => by
          simp at hb
          subst hb
          refine ⟨by omega, by omega, by omega, fun hm => ?_⟩
          have := l5.hM _ hm
          omega))
        have HF6 := hid (f5.trans NX.out.symm)
        have hk6 : Keeps [] w (w5.setRow (w.heap.size + 3) (cur.toList.take (k * 5) ++ pk.cells ++ cur.toList.drop (k * 5 + 5)).toArray) :=
          ((HK.out.trans K3.out).trans' k5 (fun i hi hm => by
            simp at hm
            rcases hm with hm | hm | hm
            · omega
            · omega
            · have := HL.out.hM _ hm; omega)).trans' s2 (fun i hi hm => by simp at hm; omega)
        have HK6 := hid hk6
        have HB6 := hid hb6
        have HFIT := hid hfit
        obtain ⟨w6, hw6⟩ : ∃ z, z = w5.setRow (w.heap.size + 3) (cur.toList.take (k * 5) ++ pk.cells ++ cur.toList.drop (k * 5 + 5)).toArray := ⟨_, rfl⟩
        rw [← hw6] at HO6 HL6 HK6
        have HW6 := hid hw6
        clear l5 f5 k5 m5 O5 hb6 hfit hset s1 s2 O6 hk6 hw6 hgp hfs hfl hfd
        go_wp2_with (first | (refine wpList_noval rfl _ (exec_storePtAt _ _ rfl (w.heap.size + 3) (k * 5) rfl cur HB6.out HFIT.out _ rfl) ?_; rw [← HW6.out]) | fail)
        go_roundw
        case rel => exact ⟨k + 1, M5, v5, fs5, by go_num, by omega, HL6, HF6, HO6, HK6⟩
        case measure => simp [intOf]; omega
    · obtain rfl : k = xs.length := by omega
      obtain ⟨av, cv, rfl⟩ := HL.out.fs.shape
      have cf := HL.out.cells.1
      go_wp2_with fail
      go_ret2
      refine ⟨_, _, rfl, ?_, ?_, HK.out⟩
      · have := HL.out.fs.at
        rw [HF.out] at this
        rw [dbs_len]
        exact this
      · have := HO.out.at
        rw [Nat.sub_self] at this
        simp only [List.replicate_zero, List.append_nil] at this
        rw [dbs_len]
        exact this
end Go.Proofs.YtcfmonlgpccndaaDoor
