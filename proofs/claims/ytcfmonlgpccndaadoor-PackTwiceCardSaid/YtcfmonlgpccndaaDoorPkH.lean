/- pack: deltas: a Put of each block, and a Cut. -/
import Derived.Test.YtcfmonlgpccndaaDoorPkD
import Derived.Test.YtcfmonlgpccndaaDoorPkG27
import Derived.Test.YtcfmonlgpccndaaDoorPkG19
import Derived.Test.YtcfmonlgpccndaaDoorPkG06
namespace Go.Proofs.YtcfmonlgpccndaaDoor
open Go.RowKit Go.Shelf
set_option maxRecDepth 100000
set_option linter.unusedSimpArgs false
set_option linter.unusedVariables false

theorem buildDl5 (i b s : Int) (p : Pt) (w : World) : (Instr.build 38 #[(0, .int .i64 1), (1, .int .i64 i), (2, .int .i64 b), (3, .int .i64 s), (4, ptV p)]).run Tryd.prog w = .ok (dlV ⟨1, i, b, s, p, pZ⟩) w := by kernel_rfl
theorem exec_buildDl5 {ρ : Operand → Value} {o : Oper} {w : World} (x1 x2 x3 x4 : Operand) (ho : o.op = .build 38 #[(0, .const (.int .i64 1)), (1, x1), (2, x2), (3, x3), (4, x4)]) (h0 : ρ (.const (.int .i64 1)) = .int .i64 1) (i b s : Int) (p : Pt) (h1 : ρ x1 = .int .i64 i) (h2 : ρ x2 = .int .i64 b) (h3 : ρ x3 = .int .i64 s) (h4 : ρ x4 = ptV p) :
    (execOp ρ o).run Tryd.prog w = .ok (.value (dlV ⟨1, i, b, s, p, pZ⟩)) w := by
  simp only [execOp, ho, List.map_toArray, List.map_cons, List.map_nil, h0, h1, h2, h3, h4, Sem.run_bind, buildDl5, Result.andThen_ok, Sem.run_pure]
theorem buildDl3 (i s : Int) (w : World) : (Instr.build 38 #[(0, .int .i64 2), (1, .int .i64 i), (3, .int .i64 s)]).run Tryd.prog w = .ok (dlV (cutD i s)) w := by kernel_rfl
theorem exec_buildDl3 {ρ : Operand → Value} {o : Oper} {w : World} (x1 x3 : Operand) (ho : o.op = .build 38 #[(0, .const (.int .i64 2)), (1, x1), (3, x3)]) (h0 : ρ (.const (.int .i64 2)) = .int .i64 2) (i s : Int) (h1 : ρ x1 = .int .i64 i) (h3 : ρ x3 = .int .i64 s) :
    (execOp ρ o).run Tryd.prog w = .ok (.value (dlV (cutD i s))) w := by
  simp only [execOp, ho, List.map_toArray, List.map_cons, List.map_nil, h0, h1, h3, Sem.run_bind, buildDl3, Result.andThen_ok, Sem.run_pure]
def DelsPost (w : World) (ds : List Dl) (e : Ending) (w' : World) : Prop := ∃ va, e = .returned va ∧ DlsAt w' va ds ∧ Keeps [] w w'
theorem pt_loaded (W : World) (b off : Nat) (x : Pt) (hc : W.rangeAt b off x.cells) : (Instr.loadAt 36 (.pointer (some ⟨b, off, none⟩))).run Tryd.prog W = .ok (ptV x) W :=
  run_loadAt_mid W b off 36 x.cells _ hc uPtr rfl (by rw [sPtr]; rfl)
set_option maxHeartbeats 12800000 in
theorem pDeltas_any (w : World) (ino size : Int) (v u : Value) (xs : List Dr) (ps : List Pt) (hv : DsAt w v xs) (hu : PtsAt w [] u ps) (hl : xs.length ≤ 64) (hp : ps.length = xs.length) :
    Calls Tryd.prog 28 #[.int .i64 ino, .int .i64 size, v, u] w (DelsPost w (delsL ino size (dbs xs) ps xs.length ++ [cutD ino size])) := by
  obtain ⟨a, c, rfl⟩ := hv.shape
  obtain ⟨ap, cp, rfl⟩ := hu.shape
  have HV := hid hv
  have HU := hid hu
  have HPL := hid hp
  clear hv hu hp
  go_enter Tryd.func28, Tryd.ntmps28
  go_wp2_with fail
  go_loopw [9, 14] (fun ov iv wr => ∃ (k : Nat) (ao : Option Addr) (co : Nat), iv = .int .i64 k ∧ k ≤ xs.length ∧ ov = .slice ao k co ∧ Hid (OwnD wr w.heap.size (.slice ao k co) (delsL ino size (dbs xs) ps k)) ∧ Hid (Keeps [] w wr)) (fun _ iv _ => xs.length - (intOf iv).toNat)
  case atStart => exact ⟨0, none, 0, rfl, Nat.zero_le _, rfl, hid (OwnD.nil _ _), hid (Keeps.refl _ _)⟩
  case round =>
    obtain ⟨k, ao, co, rfl, hk, rfl, HO, HK⟩ := hrel
    by_cases hlt : k < xs.length
    · obtain ⟨g, off, rfl, hg, D⟩ := (HV.out.keep HK.out).at k hlt
      obtain ⟨gp, po, rfl, _, _, hgp, _, hrp⟩ := (HU.out.later HK.out).open (by have := HPL.out; omega)
      have hkp : k < ps.length := by have := HPL.out; omega
      have P0 := range_pt hrp k hkp
      have HDK := hid (show delK ino size (dbs xs) ps k = ⟨1, ino, xs[k].b, size, ps[k], pZ⟩ by
        unfold delK
        rw [dbs_get hlt, List.getD_eq_getElem?_getD, List.getElem?_eq_getElem hkp]
        rfl)
      obtain ⟨x, hx⟩ : ∃ x, x = xs[k] := ⟨_, rfl⟩
      obtain ⟨p, hpp⟩ : ∃ p, p = ps[k] := ⟨_, rfl⟩
      rw [← hx] at D HDK
      rw [← hpp] at P0 HDK
      clear hx hpp hrp
      obtain ⟨a', c', hr, _⟩ := id D.row
      obtain ⟨bb, br, bd⟩ := x
      simp only at hr HDK
      subst hr
      have HD := hid D
      have H1 := hid (dt_one D.row)
      obtain ⟨w1, hw1⟩ : ∃ z, z = wr.alloc (.cells #[.int .i64 bb, .slice a' bd.length c'] 33) := ⟨_, rfl⟩
      have HW1 := hid hw1
      have KA := hid (show Keeps [] wr w1 by rw [hw1]; exact (Keeps.refl [] wr).alloc _)
      have S1 := hid (show w1.heap.size = wr.heap.size + 1 by rw [hw1]; simp)
      obtain ⟨cb, cr⟩ := block_cells2 (show w1.heap[wr.heap.size]? = some (.cells #[.int .i64 bb, .slice a' bd.length c'] 33 (0, 0)) by rw [hw1]; exact heap_alloc_new wr _)
      have P1 := range_keep P0 KA.out (by simp)
      have HP1 := hid P1
      have HCB := hid cb
      have hlo : ∀ b, (Value.slice ao k co).ownBlock = some b → w.heap.size ≤ b ∧ b < wr.heap.size := fun b hb => HO.out.blk b hb
      have HLO := hid hlo
      have ng : gp ∉ (Value.slice ao k co).ownBlock.toList := fun hm => by
        obtain ⟨gp', po', e, _, _, hgp', _⟩ := HU.out.open (by have := HPL.out; omega)
        injection e with e
        injection e with e _
        subst e
        have := (hlo gp (by simpa using hm)).1
        omega
      have nw : wr.heap.size ∉ (Value.slice ao k co).ownBlock.toList := fun hm => by
        have := (hlo _ (by simpa using hm)).2
        omega
      have HNG := hid (And.intro ng nw)
      have hgp1 : gp < w1.heap.size := by have := S1.out; omega
      have HGP := hid hgp1
      clear D hw1 cr hg P0 P1 hlo ng nw hgp1 hgp cb
      go_wp2_with (first | (refine wpList_is rfl _ _ (exec_load _ _ _ _ rfl rfl (loadDt _ g (off + k * 2) _ HD.out.rg)) ?_) | (refine wpList_is rfl _ _ (exec_alloc 33 dzA iDirty2 rfl) ?_) | (refine wpList_noval rfl _ (exec_storeNew 33 _ _ rfl wr dzA #[.int .i64 bb, .slice a' bd.length c'] rfl rfl rfl iDirty2 rfl H1.out) ?_; rw [← HW1.out]) | fail)
      refine wp_region_any (by kernel_rfl) (wpAny_of_held (S := KpS (Value.slice ao k co).ownBlock.toList w1.heap.size w1.drew) _ _ _ _ ?_)
      change wpAnyH _ _ _ _ _ _ _ _ w1.drew
      have D0 : ∀ W1, KpS (Value.slice ao k co).ownBlock.toList w1.heap.size w1.drew W1 → W1.cell? ⟨wr.heap.size, 0, none⟩ = some (.int .i64 bb) := fun W1 h => h.cell (by rw [World.cell?_drew]; exact HCB.out) (by show wr.heap.size < w1.heap.size; have := S1.out; omega) HNG.out.2
      have D1 : ∀ W1, KpS (Value.slice ao k co).ownBlock.toList w1.heap.size w1.drew W1 → W1.rangeAt gp (po + k * 5) p.cells := fun W1 h j v hv => h.cell (by rw [World.cell?_drew]; exact HP1.out j v hv) HGP.out HNG.out.1
      refine held_take (i := 0) (v := .slice ao k co) rfl (by kernel_rfl) (by kernel_rfl) (by kernel_rfl) (fun _ _ _ h => h) rfl (fun W1 hW1 => rfl) (KpS.refl _ _ _) ?_
      simp only [Act.put, List.setIfInBounds_toArray, List.set_cons_zero, List.set_cons_succ]
      refine held_take (i := 1) (v := .int .i64 ino) rfl (by kernel_rfl) (by kernel_rfl) (by kernel_rfl) (fun _ _ _ h => h) rfl (fun W1 hW1 => rfl) (KpS.refl _ _ _) ?_
      simp only [Act.put, List.setIfInBounds_toArray, List.set_cons_zero, List.set_cons_succ]
      refine held_take (i := 2) (v := .pointer (some ⟨wr.heap.size, 0, none⟩)) rfl (by kernel_rfl) (by kernel_rfl) (by kernel_rfl) (fun _ _ _ h => h) rfl (fun W1 hW1 => by go_simp) (KpS.refl _ _ _) ?_
      simp only [Act.put, List.setIfInBounds_toArray, List.set_cons_zero, List.set_cons_succ]
      refine held_take (i := 3) (v := .int .i64 bb) rfl (by kernel_rfl) (by kernel_rfl) (by kernel_rfl) (fun _ _ _ h => h) rfl (fun W1 hW1 => exec_load _ _ _ _ rfl rfl (run_loadCell W1 _ _ _ (D0 W1 hW1) (agg_no _ (by kernel_rfl)))) (KpS.refl _ _ _) ?_
      simp only [Act.put, List.setIfInBounds_toArray, List.set_cons_zero, List.set_cons_succ]
      refine held_take (i := 4) (v := .int .i64 size) rfl (by kernel_rfl) (by kernel_rfl) (by kernel_rfl) (fun _ _ _ h => h) rfl (fun W1 hW1 => rfl) (KpS.refl _ _ _) ?_
      simp only [Act.put, List.setIfInBounds_toArray, List.set_cons_zero, List.set_cons_succ]
      refine held_take (i := 5) (v := .slice (some ⟨gp, po, none⟩) ps.length cp) rfl (by kernel_rfl) (by kernel_rfl) (by kernel_rfl) (fun _ _ _ h => h) rfl (fun W1 hW1 => rfl) (KpS.refl _ _ _) ?_
      simp only [Act.put, List.setIfInBounds_toArray, List.set_cons_zero, List.set_cons_succ]
      refine held_take (i := 6) (v := .int .i64 (k : Int)) rfl (by kernel_rfl) (by kernel_rfl) (by kernel_rfl) (fun _ _ _ h => h) rfl (fun W1 hW1 => rfl) (KpS.refl _ _ _) ?_
      simp only [Act.put, List.setIfInBounds_toArray, List.set_cons_zero, List.set_cons_succ]
      refine held_take (i := 7) (v := .pointer (some ⟨gp, po + k * 5, none⟩)) rfl (by kernel_rfl) (by kernel_rfl) (by kernel_rfl) (fun _ _ _ h => h) rfl (fun W1 hW1 => by go_simp) (KpS.refl _ _ _) ?_
      simp only [Act.put, List.setIfInBounds_toArray, List.set_cons_zero, List.set_cons_succ]
      refine held_take (i := 8) (v := ptV p) rfl (by kernel_rfl) (by kernel_rfl) (by kernel_rfl) (fun _ _ _ h => h) rfl (fun W1 hW1 => exec_load _ _ _ _ rfl rfl (pt_loaded W1 gp (po + k * 5) p (D1 W1 hW1))) (KpS.refl _ _ _) ?_
      simp only [Act.put, List.setIfInBounds_toArray, List.set_cons_zero, List.set_cons_succ]
      refine held_take (i := 9) (v := dlV ⟨1, ino, bb, size, p, pZ⟩) rfl (by kernel_rfl) (by kernel_rfl) (by kernel_rfl) (fun _ _ _ h => h) rfl (fun W1 hW1 => exec_buildDl5 _ _ _ _ rfl rfl _ _ _ _ rfl rfl rfl rfl) (KpS.refl _ _ _) ?_
      simp only [Act.put, List.setIfInBounds_toArray, List.set_cons_zero, List.set_cons_succ]
      refine held_do (i := 10) (by kernel_rfl) rfl rfl (wp_value (exec_oneDl _ ⟨1, ino, bb, size, p, pZ⟩ rfl rfl) ?_)
      have kB : Keeps [] w1 (w1.drew.alloc (.cells (⟨1, ino, bb, size, p, pZ⟩ : Dl).cells.toArray 38)) := (Keeps.refl [] w1).drew.alloc _
      have sB : KpS (Value.slice ao k co).ownBlock.toList w1.heap.size w1.drew (w1.drew.alloc (.cells (⟨1, ino, bb, size, p, pZ⟩ : Dl).cells.toArray 38)) := (KpS.refl _ _ _).alloc (by simp) _
      have oB := one_dl w1.drew ⟨1, ino, bb, size, p, pZ⟩
      have eS : w1.drew.heap.size = w1.heap.size := rfl
      rw [eS] at oB
      clear eS
      refine ⟨sB, ?_⟩
      simp only [Act.put, List.setIfInBounds_toArray, List.set_cons_zero, List.set_cons_succ]
      generalize w1.drew.alloc (.cells (⟨1, ino, bb, size, p, pZ⟩ : Dl).cells.toArray 38) = wB at kB sB oB ⊢
      have hw0 := HK.out.size
      obtain ⟨a3, c3, w2, hr2, o2, k2⟩ := append_dls (HO.out.later (KA.out.trans kB)) _ 1 1 oB (by rw [dels_len]; simp; omega) (by have := kB.size; have := KA.out.size; omega) 24
      rw [dels_len] at hr2 o2
      have K2 : Hid (Keeps [] w w2) := hid ((HK.out.trans (KA.out.trans kB)).trans' k2 (fun j hj hm => by have := (HLO.out j (by simpa using hm)).1; omega))
      have O2 : Hid (OwnD w2 w.heap.size (.slice a3 (k + 1) c3) (delsL ino size (dbs xs) ps (k + 1))) := hid (by rw [dels_succ, HDK.out]; exact o2)
      refine held_do (i := 11) (by kernel_rfl) rfl rfl (wp_value (exec_appendT 24 _ _ rfl rfl rfl hr2) ?_)
      refine ⟨sB.keeps k2 kB.size (fun j hj _ => hj), ?_⟩
      simp only [Act.put, List.setIfInBounds_toArray, List.set_cons_zero, List.set_cons_succ]
      have sE : KpS (Value.slice ao k co).ownBlock.toList w1.heap.size w1.drew w2 := sB.keeps k2 kB.size (fun j hj _ => hj)
      refine held_take (i := 12) (v := .slice a3 (k + 1) c3) rfl (by kernel_rfl) (by kernel_rfl) (by kernel_rfl) (fun _ _ _ h => h) rfl (fun W1 hW1 => by go_simp) (sE) ?_
      simp only [Act.put, List.setIfInBounds_toArray, List.set_cons_zero, List.set_cons_succ]
      refine wpAnyH_done (by kernel_rfl) ?_ _
      clear D0 D1 kB sB oB hr2 o2 k2 sE hw0
      go_wp2_with fail
      go_roundw
      case rel => exact ⟨k + 1, a3, c3, by go_num, by omega, rfl, O2, K2⟩
      case measure => simp [intOf]; omega
    · obtain rfl : k = xs.length := by omega
      obtain ⟨w1, hw1⟩ : ∃ z, z = wr.alloc (.cells (cutD ino size).cells.toArray 38) := ⟨_, rfl⟩
      have HW1 := hid hw1
      have ka : Keeps [] wr w1 := by rw [hw1]; exact (Keeps.refl [] wr).alloc _
      have hw0 := HK.out.size
      obtain ⟨a3, c3, w2, hr2, o2, k2⟩ := append_dls (HO.out.later ka) _ 1 1 (by rw [hw1]; exact one_dl wr (cutD ino size)) (by rw [dels_len]; simp; omega) (by have := ka.size; omega) 24
      rw [dels_len] at hr2 o2
      rw [hw1] at hr2
      have K2 : Hid (Keeps [] w w2) := hid ((HK.out.trans ka).trans' k2 (fun j hj hm => by have := (HO.out.blk j (by simpa using hm)).1; omega))
      have O2 := hid o2
      have RUN := hid hr2
      clear hw1 ka hr2 o2 k2
      go_wp2_with (first | (refine wpList_is rfl _ _ (exec_buildDl3 _ _ rfl rfl _ _ rfl rfl) ?_) | (refine wpList_is rfl _ _ (exec_oneDl _ (cutD ino size) rfl rfl) ?_) | (refine wpList_is rfl _ _ (exec_appendT 24 _ _ rfl rfl rfl RUN.out) ?_) | fail)
      go_ret
      exact ⟨_, rfl, O2.out.at, K2.out⟩
end Go.Proofs.YtcfmonlgpccndaaDoor
