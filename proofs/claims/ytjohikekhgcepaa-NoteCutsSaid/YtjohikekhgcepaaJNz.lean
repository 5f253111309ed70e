/- NtO, NtP, NtQ, NtCutW, NtT, NtCuts. -/
import Derived.Test.YtjohikekhgcepaaNtV
import Derived.Test.YtjohikekhgcepaaJB2
import Derived.Test.YtjohikekhgcepaaNtPn0
import Derived.Test.YtjohikekhgcepaaNtPn1
import Derived.Test.YtjohikekhgcepaaNtPn2
import Derived.Test.YtjohikekhgcepaaNtPn3
import Derived.Test.YtjohikekhgcepaaNtPn4
import Derived.Test.YtjohikekhgcepaaNtPn5
import Derived.Test.YtjohikekhgcepaaNtPe
import Derived.Test.YtjohikekhgcepaaNtL
import Derived.Test.YtjohikekhgcepaaNtG
import Derived.Deep.Strs
import Derived.ChangeSame
import Derived.ChangeMaps5
/- note: the law's Request. -/
namespace Go.Proofs.Ytjohikekhgcepaa
open Go.RowKit Go.Shelf
set_option maxRecDepth 100000
set_option linter.unusedSimpArgs false
set_option linter.unusedVariables false

/-- A request as the program has it: its stripes in new memory. -/
def CvQ (w : World) (r : Rq) (v2 : Value) (e : Ending) (w' : World) : Prop := ∃ a c, e = .returned (rqV r (.slice a r.ss.length c) v2) ∧ LsAt KSz w' (.slice a r.ss.length c) r.ss ∧ Keeps [] w w'
theorem bld_st3 (a b c : Int) (w : World) : (Instr.build 84 #[(0, .int .i64 a), (1, .int .i64 b), (2, .int .i64 c)]).run Try.prog w = .ok (.agg #[.int .i64 a, .int .i64 b, .int .i64 c]) w := by kernel_rfl
theorem exec_st3 {ρ : Operand → Value} {o : Oper} {w : World} (x y z : Operand) (a b c : Int) (ho : o.op = .build 84 #[(0, x), (1, y), (2, z)]) (h0 : ρ x = .int .i64 a) (h1 : ρ y = .int .i64 b) (h2 : ρ z = .int .i64 c) : (execOp ρ o).run Try.prog w = .ok (.value (.agg #[.int .i64 a, .int .i64 b, .int .i64 c])) w := by
  simp only [execOp, ho, List.map_toArray, List.map_cons, List.map_nil, h0, h1, h2, Sem.run_bind, bld_st3, Result.andThen_ok, Sem.run_pure]
theorem bld_lawRq (r : Rq) (b : Option Addr) (n d : Nat) (w : World) : (Instr.build 88 #[(0, .agg #[.int .i64 r.cl, .int .i64 r.lf, .int .i64 r.sq]), (1, .int .i64 r.dO), (2, .string r.pa), (3, .string r.tp), (4, .bool r.di), (5, .bool r.wr), (6, .bool r.cz), (7, .int .i64 r.ha), (8, .int .i64 r.nx), (9, .int .i64 r.sw), (11, .slice b n d)]).run Try.prog w = .ok (rqV r (.slice none 0 0) (.slice b n d)) w := by kernel_rfl
theorem exec_lawRq {ρ : Operand → Value} {o : Oper} {w : World} (x0 x1 x2 x3 x4 x5 x6 x7 x8 x9 x11 : Operand) (r : Rq) (b : Option Addr) (n d : Nat) (ho : o.op = .build 88 #[(0, x0), (1, x1), (2, x2), (3, x3), (4, x4), (5, x5), (6, x6), (7, x7), (8, x8), (9, x9), (11, x11)])
    (h0 : ρ x0 = .agg #[.int .i64 r.cl, .int .i64 r.lf, .int .i64 r.sq]) (h1 : ρ x1 = .int .i64 r.dO) (h2 : ρ x2 = .string r.pa) (h3 : ρ x3 = .string r.tp) (h4 : ρ x4 = .bool r.di) (h5 : ρ x5 = .bool r.wr) (h6 : ρ x6 = .bool r.cz) (h7 : ρ x7 = .int .i64 r.ha) (h8 : ρ x8 = .int .i64 r.nx) (h9 : ρ x9 = .int .i64 r.sw) (h11 : ρ x11 = .slice b n d) :
    (execOp ρ o).run Try.prog w = .ok (.value (rqV r (.slice none 0 0) (.slice b n d))) w := by
  simp only [execOp, ho, List.map_toArray, List.map_cons, List.map_nil, h0, h1, h2, h3, h4, h5, h6, h7, h8, h9, h11, Sem.run_bind, bld_lawRq, Result.andThen_ok, Sem.run_pure]
theorem bld_nsz (x : Sz) (w : World) : (Instr.build 164 #[(0, .agg #[.int .i64 x.c, .int .i64 x.l, .int .i64 x.n]), (1, .int .i64 x.s)]).run Try.prog w = .ok (KSz.v x) w := by kernel_rfl
theorem exec_nsz {ρ : Operand → Value} {o : Oper} {w : World} (x0 x1 : Operand) (x : Sz) (ho : o.op = .build 164 #[(0, x0), (1, x1)]) (h0 : ρ x0 = .agg #[.int .i64 x.c, .int .i64 x.l, .int .i64 x.n]) (h1 : ρ x1 = .int .i64 x.s) : (execOp ρ o).run Try.prog w = .ok (.value (KSz.v x)) w := by
  simp only [execOp, ho, List.map_toArray, List.map_cons, List.map_nil, h0, h1, Sem.run_bind, bld_nsz, Result.andThen_ok, Sem.run_pure]
theorem load_st3 (W : World) (g off : Nat) (x : Sz) (h : W.rangeAt g off (KSz.cells x)) : (Instr.loadAt 23 (.pointer (some ⟨g, off, none⟩))).run Try.prog W = .ok (.agg #[.int .i64 x.c, .int .i64 x.l, .int .i64 x.n]) W := by
  obtain ⟨d, hd, hr⟩ : ∃ d, Try.prog.underlying 23 = some d ∧ d.isRow = true := ⟨_, Try.underlying23, rfl⟩
  refine run_loadAt_mid W g off 23 [.int .i64 x.c, .int .i64 x.l, .int .i64 x.n] d (fun j u hu => h j u ?_) hd hr (by kernel_rfl)
  match j, hu with
  | 0, hu => exact hu
  | 1, hu => exact hu
  | 2, hu => exact hu
set_option maxHeartbeats 25600000 in
theorem lawRequest_any (w : World) (r : Rq) (v1 v2 : Value) (h1 : LsAt KSz w v1 r.ss) (h2 : LsAt KDl w v2 r.dl) (hl : r.ss.length ≤ 60) : Calls Try.prog 43 #[rqV r v1 v2] w (CvQ w r v2) := by
  obtain ⟨av, cv, rfl⟩ := h1.shape
  obtain ⟨b, d, hv2⟩ := h2.shape
  obtain ⟨n, hn⟩ : ∃ z, z = r.dl.length := ⟨_, rfl⟩
  rw [← hn] at hv2
  subst hv2
  clear hn h2
  have FL := hid hl
  have H1 := hid h1
  have ka : Keeps [] w (((w.alloc (.cells (r.cells (.slice av r.ss.length cv) (.slice b n d)).toArray 94)).alloc (.cells (rqZ.cells (.slice none 0 0) (.slice none 0 0)).toArray 88)).alloc (.cells (rqZ.cells (.slice none 0 0) (.slice none 0 0)).toArray 88)) := (((Keeps.refl [] w).alloc _).alloc _).alloc _
  have RA := hid (krange_keep (krange_new w (r.cells (.slice av r.ss.length cv) (.slice b n d)) 94) ((Keeps.refl [] _).alloc (.cells (rqZ.cells (.slice none 0 0) (.slice none 0 0)).toArray 88)) (by simp))
  have kb : Keeps [] ((w.alloc (.cells (r.cells (.slice av r.ss.length cv) (.slice b n d)).toArray 94)).alloc (.cells (rqZ.cells (.slice none 0 0) (.slice none 0 0)).toArray 88)) (((w.alloc (.cells (r.cells (.slice av r.ss.length cv) (.slice b n d)).toArray 94)).alloc (.cells (rqZ.cells (.slice none 0 0) (.slice none 0 0)).toArray 88)).alloc (.cells (rqZ.cells (.slice none 0 0) (.slice none 0 0)).toArray 88)) := (Keeps.refl [] _).alloc _
  have FB0 := heap_alloc_new (w.alloc (.cells (r.cells (.slice av r.ss.length cv) (.slice b n d)).toArray 94)) (.cells (rqZ.cells (.slice none 0 0) (.slice none 0 0)).toArray 88)
  rw [World.size_alloc] at FB0
  have FB1 := (kb.block (w.heap.size + 1) (by simp) (by simp)).trans FB0
  have FC0 := heap_alloc_new ((w.alloc (.cells (r.cells (.slice av r.ss.length cv) (.slice b n d)).toArray 94)).alloc (.cells (rqZ.cells (.slice none 0 0) (.slice none 0 0)).toArray 88)) (.cells (rqZ.cells (.slice none 0 0) (.slice none 0 0)).toArray 88)
  rw [World.size_alloc, World.size_alloc] at FC0
  have RC := hid (krange_keep RA.out kb (by simp))
  obtain ⟨q1, q2⟩ := setRow_keepsN (cs := (r.cells (.slice none 0 0) (.slice b n d)).toArray) FC0
  have RD := hid (krange_keep RC.out q2 (show w.heap.size ∉ [w.heap.size + 1 + 1] by simp; omega))
  have FZ := hid ((q2.block (w.heap.size + 1) (by simp) (by simp)).trans FB1)
  have FT := hid q1
  have FC := hid FC0
  have KW := hid (ka.trans' q2 (S := []) (fun i hi hm => by simp at hm; omega))
  have HS := hid (show w.heap.size + 2 < ((((w.alloc (.cells (r.cells (.slice av r.ss.length cv) (.slice b n d)).toArray 94)).alloc (.cells (rqZ.cells (.slice none 0 0) (.slice none 0 0)).toArray 88)).alloc (.cells (rqZ.cells (.slice none 0 0) (.slice none 0 0)).toArray 88)).setRow (w.heap.size + 1 + 1) (r.cells (.slice none 0 0) (.slice b n d)).toArray).heap.size by have := q2.size; simp at this ⊢; try omega)
  clear q1 q2 FC0 FB1 FB0 ka kb h1
  have c0 := ask_cell RA.out (show _ = some (.int .i64 r.cl) from rfl) (j := 0)
  have c1 := ask_cell RA.out (show _ = some (.int .i64 r.lf) from rfl) (j := 1)
  have c2 := ask_cell RA.out (show _ = some (.int .i64 r.sq) from rfl) (j := 2)
  have c3 := ask_cell RA.out (show _ = some (.int .i64 r.dO) from rfl) (j := 3)
  have c4 := ask_cell RA.out (show _ = some (.string r.pa) from rfl) (j := 4)
  have c5 := ask_cell RA.out (show _ = some (.string r.tp) from rfl) (j := 5)
  have c6 := ask_cell RA.out (show _ = some (.bool r.di) from rfl) (j := 6)
  have c7 := ask_cell RA.out (show _ = some (.bool r.wr) from rfl) (j := 7)
  have c8 := ask_cell RA.out (show _ = some (.bool r.cz) from rfl) (j := 8)
  have c9 := ask_cell RA.out (show _ = some (.int .i64 r.ha) from rfl) (j := 9)
  have c10 := ask_cell RA.out (show _ = some (.int .i64 r.nx) from rfl) (j := 10)
  have c11 := ask_cell RA.out (show _ = some (.int .i64 r.sw) from rfl) (j := 11)
  have c13 := ask_cell RA.out (show _ = some (.slice b n d) from rfl) (j := 13)
  go_enter Try.func43, Try.ntmps43
  go_wp2_with (first | (refine wpList_is rfl _ _ (exec_box 94 _ (r.cells (.slice av r.ss.length cv) (.slice b n d)).toArray rfl rfl) ?_) | (refine wpList_is rfl _ _ (exec_alloc 88 (rqZ.cells (.slice none 0 0) (.slice none 0 0)).toArray iReq rfl) ?_; try simp only [World.size_alloc]) | (refine wpList_is rfl _ _ (exec_st3 _ _ _ r.cl r.lf r.sq rfl rfl rfl rfl) ?_) | (refine wpList_is rfl _ _ (exec_lawRq _ _ _ _ _ _ _ _ _ _ _ r b n d rfl rfl rfl rfl rfl rfl rfl rfl rfl rfl rfl rfl) ?_) | (refine wpList_noval rfl _ (exec_storeWhole 88 _ _ rfl (w.heap.size + 1 + 1) (rqZ.cells (.slice none 0 0) (.slice none 0 0)).toArray (r.cells (.slice none 0 0) (.slice b n d)) FC.out rfl rfl rfl (by kernel_rfl) (one_rq r _ _ _ _ _ _)) ?_; refine Hid.out ?_) | fail)
  refine hid ?_
  clear FC RA RC c0 c1 c2 c3 c4 c5 c6 c7 c8 c9 c10 c11 c13
  obtain ⟨W, hW⟩ : ∃ z, z = (((w.alloc (.cells (r.cells (.slice av r.ss.length cv) (.slice b n d)).toArray 94)).alloc (.cells (rqZ.cells (.slice none 0 0) (.slice none 0 0)).toArray 88)).alloc (.cells (rqZ.cells (.slice none 0 0) (.slice none 0 0)).toArray 88)).setRow (w.heap.size + 1 + 1) (r.cells (.slice none 0 0) (.slice b n d)).toArray := ⟨_, rfl⟩
  rw [← hW] at RD FZ FT KW HS ⊢
  clear hW
  obtain ⟨n0, hn0⟩ : ∃ z, z = w.heap.size := ⟨_, rfl⟩
  obtain ⟨n1, hn1⟩ : ∃ z, z = w.heap.size + 1 := ⟨_, rfl⟩
  obtain ⟨n2, hn2⟩ : ∃ z, z = w.heap.size + 1 + 1 := ⟨_, rfl⟩
  have NN := hid (show n0 = w.heap.size ∧ n1 = n0 + 1 ∧ n2 = n0 + 2 by omega)
  rw [← hn2] at FT ⊢
  rw [← hn1] at FZ ⊢
  rw [← hn0] at RD ⊢
  clear hn0 hn1 hn2
  go_wp2_with fail
  go_loopw [4] (fun iv wr => ∃ (i : Nat) (ao : Option Addr) (co : Nat), iv = .int .i64 (i : Int) ∧ i ≤ r.ss.length ∧ Hid (OwnT KSz 164 wr W.heap.size (.slice ao i co) (r.ss.take i)) ∧ Hid (wr.heap[n2]? = some (.cells (r.cells (.slice ao i co) (.slice b n d)).toArray 88 (0, 0))) ∧ Hid (Keeps [n2] W wr)) (fun iv _ => r.ss.length - (intOf iv).toNat)
  case atStart => exact ⟨0, none, 0, rfl, by omega, hid (OwnT.nil _ _ _ _), FT, hid (Keeps.refl _ _)⟩
  case round =>
    obtain ⟨i, ao, co, rfl, hi, HO, HF, HK⟩ := hrel
    have HNE := hid (show n0 ∉ [n2] ∧ n1 ∉ [n2] by have := NN.out; simp; omega)
    have RW := hid (krange_keep RD.out HK.out HNE.out.1)
    have ca := ask_cell RW.out (show _ = some (.slice av r.ss.length cv) from rfl) (j := 12)
    have HZW := hid HK.out.size
    by_cases hlt : i < r.ss.length
    · obtain ⟨g, off, e1, hg, R0⟩ := H1.out.at i hlt
      subst e1
      obtain ⟨x, hx⟩ : ∃ x, x = r.ss[i]'hlt := ⟨_, rfl⟩
      rw [← hx] at R0
      have HX := hid hx
      have HG := hid (show g < wr.heap.size by have := KW.out.size; have := HZW.out; omega)
      have OB := hid (show ∀ k ∈ (Value.slice ao i co).ownBlock.toList, W.heap.size ≤ k ∧ k < wr.heap.size from fun k hk => HO.out.blk k (by simpa using hk))
      have R := hid (krange_keep (krange_keep R0 KW.out (by simp)) HK.out (show g ∉ [n2] by have := NN.out; simp; omega))
      have NG := hid (show g ∉ (Value.slice ao i co).ownBlock.toList from fun hm => by have := (OB.out g hm).1; have := KW.out.size; omega)
      have N0 := hid (show n0 ∉ (Value.slice ao i co).ownBlock.toList from fun hm => by have := (OB.out n0 hm).1; have := HS.out; have := NN.out; omega)
      have N2 := hid (show n2 ∉ (Value.slice ao i co).ownBlock.toList from fun hm => by have := (OB.out n2 hm).1; have := HS.out; have := NN.out; omega)
      have HLT := hid hlt
      have L0 := hid (show n0 < wr.heap.size ∧ n2 < wr.heap.size by have := HS.out; have := HZW.out; have := NN.out; omega)
      obtain ⟨cc, ff⟩ := five_cells HF.out 12
      change wr.cell? ⟨n2, 12, none⟩ = some (.slice ao i co) at cc
      have CC := hid cc
      have CA := hid ca
      clear R0 hx hg cc ff
      go_wp2_with fail
      refine wp_region_any (by kernel_rfl) (wpAny_of_late (late := [18]) (S := KpS (Value.slice ao i co).ownBlock.toList wr.heap.size wr.drew) _ _ _ _ ?_)
      change wpAnyT _ _ _ _ _ _ _ _ _ wr.drew
      have cA : ∀ W1, KpS (Value.slice ao i co).ownBlock.toList wr.heap.size wr.drew W1 → W1.cell? ⟨n0, 12, none⟩ = some (.slice (some ⟨g, off, none⟩) r.ss.length cv) := fun W1 h => h.cell (by rw [World.cell?_drew]; exact CA.out) L0.out.1 N0.out
      have cT : ∀ W1, KpS (Value.slice ao i co).ownBlock.toList wr.heap.size wr.drew W1 → W1.cell? ⟨n2, 12, none⟩ = some (.slice ao i co) := fun W1 h => h.cell (by rw [World.cell?_drew]; exact CC.out) L0.out.2 N2.out
      have cR : ∀ W1, KpS (Value.slice ao i co).ownBlock.toList wr.heap.size wr.drew W1 → W1.rangeAt g (off + i * 4) (KSz.cells x) := fun W1 h j u hu => h.cell (by rw [World.cell?_drew]; exact R.out j u hu) HG.out NG.out
      refine late_take (i := 0) (v := .pointer (some ⟨n2, 12, none⟩)) rfl (by kernel_rfl) (by kernel_rfl) (by kernel_rfl) (by kernel_rfl) (by kernel_rfl) (fun _ _ _ h => h) rfl (fun W1 hW1 => by go_simp) (KpS.refl _ _ _) ?_
      simp only [Act.put, List.setIfInBounds_toArray, List.set_cons_zero, List.set_cons_succ]
      refine late_take (i := 1) (v := .slice ao i co) rfl (by kernel_rfl) (by kernel_rfl) (by kernel_rfl) (by kernel_rfl) (by kernel_rfl) (fun _ _ _ h => h) rfl (fun W1 hW1 => exec_load _ _ _ _ rfl rfl (run_loadCell W1 _ _ _ (cT W1 hW1) (agg_no _ (by kernel_rfl)))) (KpS.refl _ _ _) ?_
      simp only [Act.put, List.setIfInBounds_toArray, List.set_cons_zero, List.set_cons_succ]
      refine late_take (i := 2) (v := .pointer (some ⟨n0, 12, none⟩)) rfl (by kernel_rfl) (by kernel_rfl) (by kernel_rfl) (by kernel_rfl) (by kernel_rfl) (fun _ _ _ h => h) rfl (fun W1 hW1 => by go_simp) (KpS.refl _ _ _) ?_
      simp only [Act.put, List.setIfInBounds_toArray, List.set_cons_zero, List.set_cons_succ]
      refine late_take (i := 3) (v := .slice (some ⟨g, off, none⟩) r.ss.length cv) rfl (by kernel_rfl) (by kernel_rfl) (by kernel_rfl) (by kernel_rfl) (by kernel_rfl) (fun _ _ _ h => h) rfl (fun W1 hW1 => exec_load _ _ _ _ rfl rfl (run_loadCell W1 _ _ _ (cA W1 hW1) (agg_no _ (by kernel_rfl)))) (KpS.refl _ _ _) ?_
      simp only [Act.put, List.setIfInBounds_toArray, List.set_cons_zero, List.set_cons_succ]
      refine late_take (i := 4) (v := .int .i64 (i : Int)) rfl (by kernel_rfl) (by kernel_rfl) (by kernel_rfl) (by kernel_rfl) (by kernel_rfl) (fun _ _ _ h => h) rfl (fun W1 hW1 => rfl) (KpS.refl _ _ _) ?_
      simp only [Act.put, List.setIfInBounds_toArray, List.set_cons_zero, List.set_cons_succ]
      refine late_take (i := 5) (v := .pointer (some ⟨g, off + i * 4, none⟩)) rfl (by kernel_rfl) (by kernel_rfl) (by kernel_rfl) (by kernel_rfl) (by kernel_rfl) (fun _ _ _ h => h) rfl (fun W1 hW1 => by go_simp) (KpS.refl _ _ _) ?_
      simp only [Act.put, List.setIfInBounds_toArray, List.set_cons_zero, List.set_cons_succ]
      refine late_take (i := 6) (v := .pointer (some ⟨g, off + i * 4, none⟩)) rfl (by kernel_rfl) (by kernel_rfl) (by kernel_rfl) (by kernel_rfl) (by kernel_rfl) (fun _ _ _ h => h) rfl (fun W1 hW1 => by go_simp) (KpS.refl _ _ _) ?_
      simp only [Act.put, List.setIfInBounds_toArray, List.set_cons_zero, List.set_cons_succ]
      refine late_take (i := 7) (v := .agg #[.int .i64 x.c, .int .i64 x.l, .int .i64 x.n]) rfl (by kernel_rfl) (by kernel_rfl) (by kernel_rfl) (by kernel_rfl) (by kernel_rfl) (fun _ _ _ h => h) rfl (fun W1 hW1 => exec_load _ _ _ _ rfl rfl (load_st3 W1 g (off + i * 4) x (cR W1 hW1))) (KpS.refl _ _ _) ?_
      simp only [Act.put, List.setIfInBounds_toArray, List.set_cons_zero, List.set_cons_succ]
      refine late_take (i := 8) (v := .pointer (some ⟨n0, 12, none⟩)) rfl (by kernel_rfl) (by kernel_rfl) (by kernel_rfl) (by kernel_rfl) (by kernel_rfl) (fun _ _ _ h => h) rfl (fun W1 hW1 => by go_simp) (KpS.refl _ _ _) ?_
      simp only [Act.put, List.setIfInBounds_toArray, List.set_cons_zero, List.set_cons_succ]
      refine late_take (i := 9) (v := .slice (some ⟨g, off, none⟩) r.ss.length cv) rfl (by kernel_rfl) (by kernel_rfl) (by kernel_rfl) (by kernel_rfl) (by kernel_rfl) (fun _ _ _ h => h) rfl (fun W1 hW1 => exec_load _ _ _ _ rfl rfl (run_loadCell W1 _ _ _ (cA W1 hW1) (agg_no _ (by kernel_rfl)))) (KpS.refl _ _ _) ?_
      simp only [Act.put, List.setIfInBounds_toArray, List.set_cons_zero, List.set_cons_succ]
      refine late_take (i := 10) (v := .int .i64 (i : Int)) rfl (by kernel_rfl) (by kernel_rfl) (by kernel_rfl) (by kernel_rfl) (by kernel_rfl) (fun _ _ _ h => h) rfl (fun W1 hW1 => rfl) (KpS.refl _ _ _) ?_
      simp only [Act.put, List.setIfInBounds_toArray, List.set_cons_zero, List.set_cons_succ]
      refine late_take (i := 11) (v := .pointer (some ⟨g, off + i * 4, none⟩)) rfl (by kernel_rfl) (by kernel_rfl) (by kernel_rfl) (by kernel_rfl) (by kernel_rfl) (fun _ _ _ h => h) rfl (fun W1 hW1 => by go_simp) (KpS.refl _ _ _) ?_
      simp only [Act.put, List.setIfInBounds_toArray, List.set_cons_zero, List.set_cons_succ]
      refine late_take (i := 12) (v := .pointer (some ⟨g, off + i * 4 + 3, none⟩)) rfl (by kernel_rfl) (by kernel_rfl) (by kernel_rfl) (by kernel_rfl) (by kernel_rfl) (fun _ _ _ h => h) rfl (fun W1 hW1 => by go_simp) (KpS.refl _ _ _) ?_
      simp only [Act.put, List.setIfInBounds_toArray, List.set_cons_zero, List.set_cons_succ]
      refine late_take (i := 13) (v := .int .i64 x.s) rfl (by kernel_rfl) (by kernel_rfl) (by kernel_rfl) (by kernel_rfl) (by kernel_rfl) (fun _ _ _ h => h) rfl (fun W1 hW1 => exec_load _ _ _ _ rfl rfl (run_loadCell W1 _ _ _ (cR W1 hW1 3 _ rfl) (agg_no _ (by kernel_rfl)))) (KpS.refl _ _ _) ?_
      simp only [Act.put, List.setIfInBounds_toArray, List.set_cons_zero, List.set_cons_succ]
      refine late_take (i := 14) (v := KSz.v x) rfl (by kernel_rfl) (by kernel_rfl) (by kernel_rfl) (by kernel_rfl) (by kernel_rfl) (fun _ _ _ h => h) rfl (fun W1 hW1 => exec_nsz _ _ x rfl rfl rfl) (KpS.refl _ _ _) ?_
      simp only [Act.put, List.setIfInBounds_toArray, List.set_cons_zero, List.set_cons_succ]
      refine late_do (i := 15) (by kernel_rfl) rfl rfl (wp_value (exec_oneT cSz _ x rfl rfl) ?_)
      have kB : Keeps [] wr (wr.drew.alloc (.cells (KSz.cells x).toArray 164)) := (Keeps.refl [] wr).drew.alloc _
      have sB : KpS (Value.slice ao i co).ownBlock.toList wr.heap.size wr.drew (wr.drew.alloc (.cells (KSz.cells x).toArray 164)) := (KpS.refl _ _ _).alloc (by simp) _
      have oB := one_ls wr.drew x 164 (K := KSz)
      refine ⟨Or.inr sB, ?_⟩
      simp only [Act.put, List.setIfInBounds_toArray, List.set_cons_zero, List.set_cons_succ]
      have eS : wr.drew.heap.size = wr.heap.size := rfl
      rw [eS] at oB ⊢
      generalize wr.drew.alloc (.cells (KSz.cells x).toArray 164) = wB at kB sB oB ⊢
      have lt : (r.ss.take i).length = i := by rw [List.length_take]; have := HLT.out; omega
      have hzB := kB.size
      obtain ⟨a3, c3, wD, run2, o2, k2, _⟩ := append_ls cSz (HO.out.keep kB (by simp)) _ 1 1 oB (by rw [lt]; have := HLT.out; have := FL.out; simp; omega) (by have := HZW.out; omega) 85
      rw [lt] at run2 o2
      have sD : KpS (Value.slice ao i co).ownBlock.toList wr.heap.size wr.drew wD := sB.keeps k2 kB.size (fun j hj _ => hj)
      refine late_do (i := 16) (by kernel_rfl) rfl rfl (wp_value (exec_appendT 85 _ _ rfl rfl rfl run2) ?_)
      refine ⟨Or.inr sD, ?_⟩
      simp only [Act.put, List.setIfInBounds_toArray, List.set_cons_zero, List.set_cons_succ]
      refine late_take (i := 17) (v := .pointer (some ⟨n2, 12, none⟩)) rfl (by kernel_rfl) (by kernel_rfl) (by kernel_rfl) (by kernel_rfl) (by kernel_rfl) (fun _ _ _ h => h) rfl (fun W1 hW1 => by go_simp) (sD) ?_
      simp only [Act.put, List.setIfInBounds_toArray, List.set_cons_zero, List.set_cons_succ]
      have hD : wD.heap[n2]? = some (.cells (r.cells (.slice ao i co) (.slice b n d)).toArray 88 (0, 0)) := (k2.block n2 (by have := L0.out.2; omega) N2.out).trans ((kB.block n2 L0.out.2 (by simp)).trans HF.out)
      obtain ⟨cd, fd⟩ := five_cells hD 12
      change wD.cell? ⟨n2, 12, none⟩ = some (.slice ao i co) at cd
      refine late_do (i := 18) (by kernel_rfl) rfl rfl (wp_stored (w' := wD.setCell ⟨n2, 12, none⟩ (.slice a3 (i + 1) c3)) (by go_simp) ⟨Or.inl rfl, ?_⟩)
      simp only [Act.put]
      refine wpAnyT_done (by kernel_rfl) ?_ _
      have J := set_five (i := 12) hD (.slice a3 (i + 1) c3)
      have sk : Keeps [n2] wD (wD.setCell ⟨n2, 12, none⟩ (.slice a3 (i + 1) c3)) := set_keep
      have kD : Keeps [] W wr → True := fun _ => trivial
      have O9 : Hid (OwnT KSz 164 (wD.setCell ⟨n2, 12, none⟩ (.slice a3 (i + 1) c3)) W.heap.size (.slice a3 (i + 1) c3) (r.ss.take (i + 1))) := hid (by
        rw [List.take_succ_eq_append_getElem HLT.out, ← HX.out]
        exact o2.keep sk (fun k hk => by simp at hk; subst hk; have := HS.out; have := NN.out; omega))
      have F9 : Hid ((wD.setCell ⟨n2, 12, none⟩ (.slice a3 (i + 1) c3)).heap[n2]? = some (.cells (r.cells (.slice a3 (i + 1) c3) (.slice b n d)).toArray 88 (0, 0))) := hid J
      have K9 : Hid (Keeps [n2] W (wD.setCell ⟨n2, 12, none⟩ (.slice a3 (i + 1) c3))) := hid (((HK.out.trans (kB.mono (by simp))).trans' k2 (fun j hj hm => by have := (OB.out j (by simpa using hm)).1; omega)).trans sk)
      clear cA cT cR kB sB oB eS lt run2 o2 k2 sD hD cd fd J sk kD hzB CC CA ca
      generalize wD.setCell ⟨n2, 12, none⟩ (.slice a3 (i + 1) c3) = wE at O9 F9 K9 ⊢
      go_wp2_with fail
      go_roundw
      case rel => exact ⟨i + 1, a3, c3, by go_num, by have := HLT.out; omega, O9, F9, K9⟩
      case measure => have := HLT.out; simp [intOf]; omega
    · obtain rfl : i = r.ss.length := by omega
      have RT := hid (range_ofN HF.out rfl)
      have FB := hid ((HK.out.block n1 (by have := HS.out; have := NN.out; omega) HNE.out.2).trans FZ.out)
      obtain ⟨q1, q2⟩ := setRow_keepsN (cs := (r.cells (.slice ao r.ss.length co) (.slice b n d)).toArray) FB.out
      have Q1 := hid q1
      have Q2 := hid q2
      clear q1 q2
      go_wp2_with (first | (refine wpList_is rfl _ _ (exec_load 88 _ _ _ rfl rfl (loadRq 88 uReq sReq _ _ r _ _ RT.out)) ?_) | (refine wpList_noval rfl _ (exec_storeWhole 88 _ _ rfl n1 (rqZ.cells (.slice none 0 0) (.slice none 0 0)).toArray (r.cells (.slice ao r.ss.length co) (.slice b n d)) FB.out rfl rfl rfl (by kernel_rfl) (one_rq r _ _ _ _ _ _)) ?_) | fail)
      refine bodyPost_ret (one_ret (cs := r.cells (.slice ao r.ss.length co) (.slice b n d)) rfl uReq (by kernel_rfl) rfl (range_ofN Q1.out rfl)) rfl ?_
      have oo := (HO.out.keep Q2.out (fun k hk => by simp at hk; subst hk; have := HS.out; have := NN.out; omega)).at cSz
      rw [List.take_length] at oo
      exact ⟨ao, co, rfl, oo, (KW.out.trans' HK.out (fun k hk hm => by simp at hm; have := NN.out; omega)).trans' Q2.out (fun k hk hm => by simp at hm; have := NN.out; omega)⟩
end Go.Proofs.Ytjohikekhgcepaa


/- note: SameRequest. -/
namespace Go.Proofs.Ytjohikekhgcepaa
open Go.RowKit Go.Shelf
set_option maxRecDepth 100000
set_option linter.unusedSimpArgs false
set_option linter.unusedVariables false

theorem sameQ_any (w : World) (a b : Rq) (a1 a2 b1 b2 : Value) (h1 : LsAt KSz w a1 a.ss) (h2 : LsAt KSz w b1 b.ss) (m1 : LsAt KDl w a2 a.dl) (m2 : LsAt KDl w b2 b.dl) :
    Calls Try.prog 46 #[rqV a a1 a2, rqV b b1 b2] w (PIff w (a = b)) := by
  by_cases q0 : a.cl = b.cl
  case neg => exact sameQ_n0 w a b a1 a2 b1 b2 h1 h2 m1 m2 q0
  by_cases q1 : a.lf = b.lf
  case neg => exact sameQ_n1 w a b a1 a2 b1 b2 h1 h2 m1 m2 q0 q1
  by_cases q2 : a.sq = b.sq
  case neg => exact sameQ_n2 w a b a1 a2 b1 b2 h1 h2 m1 m2 q0 q1 q2
  by_cases q3 : a.dO = b.dO
  case neg => exact sameQ_n3 w a b a1 a2 b1 b2 h1 h2 m1 m2 q0 q1 q2 q3
  by_cases q4 : a.pa = b.pa
  case neg => exact sameQ_n4 w a b a1 a2 b1 b2 h1 h2 m1 m2 q0 q1 q2 q3 q4
  by_cases q5 : a.tp = b.tp
  case neg => exact sameQ_n5 w a b a1 a2 b1 b2 h1 h2 m1 m2 q0 q1 q2 q3 q4 q5
  by_cases q6 : a.di = b.di
  case neg => exact sameQ_n6 w a b a1 a2 b1 b2 h1 h2 m1 m2 q0 q1 q2 q3 q4 q5 q6
  by_cases q7 : a.wr = b.wr
  case neg => exact sameQ_n7 w a b a1 a2 b1 b2 h1 h2 m1 m2 q0 q1 q2 q3 q4 q5 q6 q7
  by_cases q8 : a.cz = b.cz
  case neg => exact sameQ_n8 w a b a1 a2 b1 b2 h1 h2 m1 m2 q0 q1 q2 q3 q4 q5 q6 q7 q8
  by_cases q9 : a.ha = b.ha
  case neg => exact sameQ_n9 w a b a1 a2 b1 b2 h1 h2 m1 m2 q0 q1 q2 q3 q4 q5 q6 q7 q8 q9
  by_cases q10 : a.nx = b.nx
  case neg => exact sameQ_n10 w a b a1 a2 b1 b2 h1 h2 m1 m2 q0 q1 q2 q3 q4 q5 q6 q7 q8 q9 q10
  by_cases q11 : a.sw = b.sw
  case neg => exact sameQ_n11 w a b a1 a2 b1 b2 h1 h2 m1 m2 q0 q1 q2 q3 q4 q5 q6 q7 q8 q9 q10 q11
  by_cases q12 : a.ss.length = b.ss.length
  case neg => exact sameQ_n12 w a b a1 a2 b1 b2 h1 h2 m1 m2 q0 q1 q2 q3 q4 q5 q6 q7 q8 q9 q10 q11 q12
  exact sameQ_e w a b a1 a2 b1 b2 h1 h2 m1 m2 q0 q1 q2 q3 q4 q5 q6 q7 q8 q9 q10 q11 q12
end Go.Proofs.Ytjohikekhgcepaa


/- note: Small. -/
namespace Go.Proofs.Ytjohikekhgcepaa
open Go.RowKit Go.Shelf
set_option maxRecDepth 100000
set_option linter.unusedSimpArgs false
set_option linter.unusedVariables false

/-- A request is small. -/
def SmQ (r : Rq) : Prop := r.pa.size ≤ 300 ∧ r.tp.size ≤ 300 ∧ r.ss.length ≤ 60 ∧ r.dl.length ≤ 100
set_option maxHeartbeats 6400000 in
theorem smallQ_any (w : World) (r : Rq) (v1 v2 : Value) (h1 : LsAt KSz w v1 r.ss) (h2 : LsAt KDl w v2 r.dl) : Calls Try.prog 42 #[rqV r v1 v2] w (PIff w (SmQ r)) := by
  have F1 := h1.few
  have F2 := h2.few
  unfold maxLen at F1 F2
  obtain ⟨a, m, rfl⟩ := h1.shape
  obtain ⟨b, n, rfl⟩ := h2.shape
  have RA := krange_new w (r.cells (.slice a r.ss.length m) (.slice b r.dl.length n)) 94
  have KA := hid (show Keeps [] w (w.alloc (.cells (r.cells (.slice a r.ss.length m) (.slice b r.dl.length n)).toArray 94)) from (Keeps.refl [] w).alloc _)
  have c4 := ask_cell RA (show _ = some (.string r.pa) from rfl) (j := 4)
  have c5 := ask_cell RA (show _ = some (.string r.tp) from rfl) (j := 5)
  have c12 := ask_cell RA (show _ = some (.slice a r.ss.length m) from rfl) (j := 12)
  have c13 := ask_cell RA (show _ = some (.slice b r.dl.length n) from rfl) (j := 13)
  clear RA h1 h2
  go_enter Try.func42, Try.ntmps42
  go_wp2_with (first | (refine wpList_is rfl _ _ (exec_box 94 _ (r.cells (.slice a r.ss.length m) (.slice b r.dl.length n)).toArray rfl rfl) ?_; refine Hid.out ?_) | fail)
  refine hid ?_
  by_cases q0 : r.pa.size ≤ 300
  case neg =>
    have NE := hid (show ¬ SmQ r from fun e => q0 e.1)
    have d0 : decide ((r.pa.size : Int) ≤ 300) = false := by simp; omega
    clear q0
    go_wp2_with fail
    go_ret
    exact ⟨false, rfl, ⟨fun h => (by cases h), fun h => absurd h NE.out⟩, KA.out⟩
  have Q0 := hid q0
  have d0 : decide ((r.pa.size : Int) ≤ 300) = true := by simp; omega
  clear q0
  by_cases q1 : r.tp.size ≤ 300
  case neg =>
    have NE := hid (show ¬ SmQ r from fun e => q1 e.2.1)
    have d1 : decide ((r.tp.size : Int) ≤ 300) = false := by simp; omega
    clear q1
    go_wp2_with fail
    go_ret
    exact ⟨false, rfl, ⟨fun h => (by cases h), fun h => absurd h NE.out⟩, KA.out⟩
  have Q1 := hid q1
  have d1 : decide ((r.tp.size : Int) ≤ 300) = true := by simp; omega
  clear q1
  by_cases q2 : r.ss.length ≤ 60
  case neg =>
    have NE := hid (show ¬ SmQ r from fun e => q2 e.2.2.1)
    have d2 : decide ((r.ss.length : Int) ≤ 60) = false := by simp; omega
    clear q2
    go_wp2_with fail
    go_ret
    exact ⟨false, rfl, ⟨fun h => (by cases h), fun h => absurd h NE.out⟩, KA.out⟩
  have Q2 := hid q2
  have d2 : decide ((r.ss.length : Int) ≤ 60) = true := by simp; omega
  clear q2
  by_cases q3 : r.dl.length ≤ 100
  case neg =>
    have NE := hid (show ¬ SmQ r from fun e => q3 e.2.2.2)
    have d3 : decide ((r.dl.length : Int) ≤ 100) = false := by simp; omega
    clear q3
    go_wp2_with fail
    go_ret
    exact ⟨false, rfl, ⟨fun h => (by cases h), fun h => absurd h NE.out⟩, KA.out⟩
  have Q3 := hid q3
  have d3 : decide ((r.dl.length : Int) ≤ 100) = true := by simp; omega
  clear q3
  go_wp2_with fail
  go_ret
  exact ⟨true, rfl, ⟨fun _ => ⟨Q0.out, Q1.out, Q2.out, Q3.out⟩, fun _ => rfl⟩, KA.out⟩
end Go.Proofs.Ytjohikekhgcepaa


/- note: NoteCuts' walk. -/
namespace Go.Proofs.Ytjohikekhgcepaa
open Go.RowKit Go.Shelf
set_option maxRecDepth 100000
set_option linter.unusedSimpArgs false
set_option linter.unusedVariables false

set_option maxHeartbeats 51200000 in
theorem cuts16_any (w : World) (r q : Rq) (v1 v2 u1 u2 : Value) (cut : Int) (hr : LsAt KSz w v1 r.ss) (mr : LsAt KDl w v2 r.dl) (hq : LsAt KSz w u1 q.ss) (mq : LsAt KDl w u2 q.dl) :
    Calls Try.prog 8 #[rqV r v1 v2, rqV q u1 u2, .int .i64 cut] w (PBn w true) := by
  have ka : Keeps [] w ((w.alloc (.cells (r.cells v1 v2).toArray 94)).alloc (.cells (q.cells u1 u2).toArray 94)) := ((Keeps.refl [] w).alloc _).alloc _
  have RA := hid (krange_keep (krange_new w (r.cells v1 v2) 94) ((Keeps.refl [] _).alloc (.cells (q.cells u1 u2).toArray 94)) (by simp))
  have RB := krange_new (w.alloc (.cells (r.cells v1 v2).toArray 94)) (q.cells u1 u2) 94
  rw [World.size_alloc] at RB
  have RB := hid RB
  have LTA := hid (show w.heap.size < ((w.alloc (.cells (r.cells v1 v2).toArray 94)).alloc (.cells (q.cells u1 u2).toArray 94)).heap.size by simp; omega)
  have LTB := hid (show w.heap.size + 1 < ((w.alloc (.cells (r.cells v1 v2).toArray 94)).alloc (.cells (q.cells u1 u2).toArray 94)).heap.size by simp)
  have KA := hid ka
  have HR := hid (hr.keep ka)
  have HQ := hid (hq.keep ka)
  have MR := hid (mr.keep ka)
  have MQ := hid (mq.keep ka)
  clear hr hq mr mq ka
  go_enter Try.func8, Try.ntmps8
  go_wp2_with (first | (refine wpList_is rfl _ _ (exec_box 94 _ (r.cells v1 v2).toArray rfl rfl) ?_) | (refine wpList_is rfl _ _ (exec_box 94 _ (q.cells u1 u2).toArray rfl rfl) ?_; refine Hid.out ?_) | fail)
  refine hid ?_
  obtain ⟨W, hW⟩ : ∃ z, z = (w.alloc (.cells (r.cells v1 v2).toArray 94)).alloc (.cells (q.cells u1 u2).toArray 94) := ⟨_, rfl⟩
  obtain ⟨ba, hba⟩ : ∃ z, z = w.heap.size := ⟨_, rfl⟩
  obtain ⟨bb, hbb⟩ : ∃ z, z = w.heap.size + 1 := ⟨_, rfl⟩
  rw [← hW] at RA RB KA HR HQ MR MQ LTA LTB ⊢
  rw [← hbb] at RB LTB ⊢
  rw [← hba] at RA LTA ⊢
  clear hW hba hbb
  go_wp2_with fail
  refine (awake16_any W).mono ?_
  rintro e w1 ⟨rfl, k1⟩
  have K1 := hid k1
  clear k1
  have RA1 := hid (krange_keep RA.out K1.out (by simp))
  go_wp2_with (first | (refine wpList_is rfl _ _ (exec_load _ _ _ _ rfl rfl (loadRq 94 urReq srReq _ ba r v1 v2 RA1.out)) ?_) | fail)
  refine (smallQ_any w1 r v1 v2 (HR.out.keep K1.out) (MR.out.keep K1.out)).mono ?_
  rintro e w2 ⟨z, rfl, hz, k2⟩
  have K2 := hid (K1.out.trans k2)
  clear k2
  cases z
  case false =>
    clear hz
    go_wp2_with fail
    go_ret
    exact ⟨rfl, KA.out.trans K2.out⟩
  obtain ⟨p1, p2, p3, p4⟩ := hz.1 rfl
  have P1 := hid p1
  have P2 := hid p2
  have P3 := hid p3
  have P4 := hid p4
  clear hz p1 p2 p3 p4
  have RB2 := hid (krange_keep RB.out K2.out (by simp))
  go_wp2_with (first | (refine wpList_isW rfl _ _ (exec_load _ _ _ _ rfl rfl (loadRq 94 urReq srReq _ bb q u1 u2 RB2.out)) ?_) | fail)
  refine (smallQ_any w2 q u1 u2 (HQ.out.keep K2.out) (MQ.out.keep K2.out)).mono ?_
  rintro e w3 ⟨z, rfl, hz, k3⟩
  have K3 := hid (K2.out.trans k3)
  clear k3
  cases z
  case false =>
    clear hz
    go_wp2_with fail
    go_ret
    exact ⟨rfl, KA.out.trans K3.out⟩
  obtain ⟨p1, p2, p3, p4⟩ := hz.1 rfl
  have S1 := hid p1
  have S2 := hid p2
  have S3 := hid p3
  have S4' := hid p4
  clear hz p1 p2 p3 p4
  have RA3 := hid (krange_keep RA.out K3.out (by simp))
  go_wp2_with (first | (refine wpList_is rfl _ _ (exec_load _ _ _ _ rfl rfl (loadRq 94 urReq srReq _ ba r v1 v2 RA3.out)) ?_) | fail)
  refine (lawRequest_any w3 r v1 v2 (HR.out.keep K3.out) (MR.out.keep K3.out) P3.out).mono ?_
  rintro e w4 ⟨aa, ac, rfl, la, k4⟩
  have K4a := hid (K3.out.trans k4)
  have LA0 := hid la
  clear k4 la
  go_wp2_with fail
  refine (ntEnc_any w4 r _ v2 LA0.out (MR.out.keep K4a.out) (by have := P1.out; omega) (by have := P2.out; omega)).mono ?_
  rintro e w5 ⟨k5, a4, c4, rfl, r3, _⟩
  have K5 := hid (K4a.out.trans k5)
  obtain ⟨e1, he1⟩ : ∃ z, z = (encQ r).2 := ⟨_, rfl⟩
  obtain ⟨bl, hbl⟩ : ∃ z, z = (encQ r).1 := ⟨_, rfl⟩
  rw [← hbl] at r3 ⊢
  rw [← he1]
  have R3 := hid r3
  have HE1 := hid he1
  have HBL1 := hid hbl
  clear r3 k5 he1 hbl
  have RB5 := hid (krange_keep RB.out K5.out (by simp))
  go_wp2_with (first | (refine wpList_is rfl _ _ (exec_load _ _ _ _ rfl rfl (loadRq 94 urReq srReq _ bb q u1 u2 RB5.out)) ?_) | fail)
  refine (lawRequest_any w5 q u1 u2 (HQ.out.keep K5.out) (MQ.out.keep K5.out) S3.out).mono ?_
  rintro e w6' ⟨ab, ac2, rfl, lb, k6⟩
  have K6 := hid (K5.out.trans k6)
  have R3' := hid (R3.out.keep k6 (by intro _ _ _ _ _; simp))
  have LB0 := hid lb
  clear k6 lb
  go_wp2_with fail
  refine (ntEnc_any w6' q _ u2 LB0.out (MQ.out.keep K6.out) (by have := S1.out; omega) (by have := S2.out; omega)).mono ?_
  rintro e w7' ⟨k7, a5, c5, rfl, r5, _⟩
  have KS := hid (K6.out.trans k7)
  have R4 := hid (R3'.out.keep k7 (by intro _ _ _ _ _; simp))
  obtain ⟨e2, he2⟩ : ∃ z, z = (encQ q).2 := ⟨_, rfl⟩
  obtain ⟨cl, hcl⟩ : ∃ z, z = (encQ q).1 := ⟨_, rfl⟩
  rw [← hcl] at r5 ⊢
  rw [← he2]
  have S4 := hid r5
  have HE2 := hid he2
  have HCL1 := hid hcl
  clear r5 k7 he2 hcl
  by_cases z1 : e1 = 0
  case neg =>
    have f1 : (e1 != 0) = true := by simpa using z1
    clear z1
    go_wp2_with fail
    go_ret
    exact ⟨rfl, KA.out.trans KS.out⟩
  have f1 : (e1 != 0) = false := by simpa using z1
  by_cases z2 : e2 = 0
  case neg =>
    have f2 : (e2 != 0) = true := by simpa using z2
    clear z1 z2
    go_wp2_with fail
    go_ret
    exact ⟨rfl, KA.out.trans KS.out⟩
  have f2 : (e2 != 0) = false := by simpa using z2
  obtain ⟨hb1, fr⟩ := encQ_ok (r := r) (by rw [← HE1.out]; exact z1)
  obtain ⟨hb2, fq⟩ := encQ_ok (r := q) (by rw [← HE2.out]; exact z2)
  have BL := hid (show bl = rqC.b r by rw [HBL1.out, hb1])
  have CL := hid (show cl = rqC.b q by rw [HCL1.out, hb2])
  have FR := hid fr
  have FQ := hid fq
  have HCL := hid (show cl.length ≤ 60000 by rw [CL.out]; exact rqB_len S1.out S2.out (by have := S3.out; omega) (by have := S4'.out; omega))
  have K4 := hid (KA.out.trans KS.out)
  clear z1 z2 hb1 fr hb2 fq HE1 HE2 HBL1 HCL1
  -- both are encoded
  have HBL := hid (show bl.length ≤ 60000 from by rw [BL.out]; exact rqB_len P1.out P2.out (by have := P3.out; omega) (by have := P4.out; omega))
  have hpos : 0 < bl.length := by rw [BL.out]; exact b_ne
  have HPOS := hid hpos
  have hz0 : ((bl.length : Int) == 0) = false := beq_eq_false_iff_ne.2 (by have := HPOS.out; omega)
  have hk : (bl.length : Int) ≠ 0 := by omega
  have hl2 : bl.length ≤ 60000 := HBL.out
  have t1 : -(bl.length : Int) < cut.tmod bl.length := by
    have := Int.tmod_lt_of_pos (-cut) (show (0 : Int) < bl.length by omega)
    rw [Int.neg_tmod] at this
    omega
  have t2 : cut.tmod bl.length < bl.length := Int.tmod_lt_of_pos cut (by omega)
  obtain ⟨j, hj⟩ : ∃ j : Nat, (cut.tmod (bl.length : Int) + bl.length) % (bl.length : Int) = (j : Int) := Int.eq_ofNat_of_zero_le (Int.emod_nonneg _ hk)
  have HJL := hid (show j < bl.length by have := Int.emod_lt_of_pos (cut.tmod (bl.length : Int) + bl.length) (show (0 : Int) < bl.length by omega); omega)
  obtain ⟨a7, sT, sT2, rT, bT⟩ := row_take R4.out j (Nat.le_of_lt HJL.out)
  rw [← hj] at sT
  have SLC := hid sT
  have RT := hid (rT _ R4.out)
  have HD2 := hid (show decW rqC (bl.take j) = 2 by rw [BL.out]; exact cut_b rqC_ok FR.out (by rw [← BL.out]; exact HJL.out))
  have HD3 := hid (show decW rqC (bl ++ [(IntKind.u8.wrap cut)]) = 3 by rw [BL.out]; exact long_b rqC_ok FR.out _)
  have LJ := hid (show (bl.take j).length ≤ 35184372088832 by rw [List.length_take]; have := HBL.out; omega)
  clear sT sT2 rT bT hpos
  go_wp2_with (first | (refine wpList_is rfl _ _ (exec_sliceN 28 _ _ _ _ _ rfl (SLC.out _)) ?_) | (go_at_call 41; refine Hid.out ?_) | fail)
  refine hid ?_
  clear hz0 hk t1 t2 hj
  refine (decQ_any _ _ _ RT.out LJ.out).mono ?_
  rw [HD2.out]
  rintro e w6 ⟨k6, ⟨hy, _⟩ | ⟨_, rfl⟩⟩
  case inl => exact absurd hy (by decide)
  have kb := k6.trans ((Keeps.refl [] w6).alloc (.cells (rqZ.cells (.slice none 0 0) (.slice none 0 0)).toArray 88))
  have K7 := hid (KS.out.trans kb)
  have R7 := hid (R4.out.keep kb (by intro _ _ _ _ _; simp))
  have S7 := hid (S4.out.keep kb (by intro _ _ _ _ _; simp))
  clear kb k6
  go_wp2_with (first | (refine wpList_is rfl _ _ (exec_alloc 88 (rqZ.cells (.slice none 0 0) (.slice none 0 0)).toArray iReq rfl) ?_) | (refine wpList_noval rfl _ (exec_storeNew 88 _ _ rfl w6 (rqZ.cells (.slice none 0 0) (.slice none 0 0)).toArray (rqZ.cells (.slice none 0 0) (.slice none 0 0)).toArray rfl rfl rfl iReq rfl (all_one (one_rq _ _ _ _ _ _ _))) ?_; refine Hid.out ?_) | fail)
  refine hid ?_
  generalize w6.alloc (.cells (rqZ.cells (.slice none 0 0) (.slice none 0 0)).toArray 88) = w7 at K7 R7 S7 ⊢
  go_wp2_with fail
  refine (copy_any w7 _ bl R7.out (by have := HBL.out; omega)).mono ?_
  rintro e w8 ⟨a8, c8, rfl, o8, k8⟩
  have X9 := hid (row_one (w := w8) (IntKind.u8.wrap cut) 5 (wrap8N cut))
  have k9 : Keeps [] w8 (w8.alloc (.cells #[.int .u8 (IntKind.u8.wrap cut)] 5)) := (Keeps.refl [] w8).alloc _
  have O9 := hid (o8.alloc (.cells #[.int .u8 (IntKind.u8.wrap cut)] 5))
  have HB8 := hid (Nat.le_trans k8.size k9.size)
  have BY := hid (show ∀ z ∈ bl ++ [(IntKind.u8.wrap cut)], 0 ≤ z ∧ z ≤ 255 from fun z hz => by
    rcases List.mem_append.1 hz with hz | hz
    · exact R7.out.bytes z hz
    · simp only [List.mem_singleton] at hz; rw [hz]; exact (wrap8N cut))
  obtain ⟨a9, c9, w9, hrun, o9, kA⟩ := append_bN O9.out _ _ _ X9.out (by have := HBL.out; simp only [List.length_cons, List.length_nil]; omega) HB8.out 28
  have kX : Keeps [] w7 w9 := (k8.trans k9).trans' kA (fun i hi hm => by have := (O9.out.lt i (by simpa using hm)).1; omega)
  have K9 := hid (K7.out.trans kX)
  have R9 := hid (R7.out.keep kX (by intro _ _ _ _ _; simp))
  have S9 := hid (S7.out.keep kX (by intro _ _ _ _ _; simp))
  have RX := hid (row_of_own o9 BY.out)
  have RUN := hid hrun
  have LX := hid (show (bl ++ [(IntKind.u8.wrap cut)]).length ≤ 35184372088832 by have := HBL.out; simp only [List.length_append, List.length_cons, List.length_nil]; omega)
  clear hrun o9 kA kX k8 k9 o8
  obtain ⟨lx, hlx⟩ : ∃ z, z = (bl ++ [(IntKind.u8.wrap cut)]).length := ⟨_, rfl⟩
  rw [← hlx] at RUN RX
  have HLX := hid hlx
  clear hlx
  go_wp2_with (first | (refine wpList_is rfl _ _ (exec_oneB _ (IntKind.u8.wrap cut) rfl rfl) ?_) | (at_builtin; refine wpList_is rfl _ _ (exec_appendT 28 _ _ rfl rfl rfl RUN.out) ?_) | (go_at_call 41; refine Hid.out ?_) | fail)
  refine hid ?_
  have RX2 := hid (show RowAt w9 (.slice a9 lx c9) (bl ++ [(IntKind.u8.wrap cut)]) from RX.out)
  refine (decQ_any _ _ _ RX2.out LX.out).mono ?_
  rw [HD3.out]
  rintro e wA ⟨kA, ⟨hy, _⟩ | ⟨_, rfl⟩⟩
  case inl => exact absurd hy (by decide)
  have kb := kA.trans ((Keeps.refl [] wA).alloc (.cells (rqZ.cells (.slice none 0 0) (.slice none 0 0)).toArray 88))
  have KB := hid (K9.out.trans kb)
  have RB9 := hid (R9.out.keep kb (by intro _ _ _ _ _; simp))
  have SB9 := hid (S9.out.keep kb (by intro _ _ _ _ _; simp))
  clear kb kA RX RX2 RUN
  go_wp2_with (first | (refine wpList_is rfl _ _ (exec_alloc 88 (rqZ.cells (.slice none 0 0) (.slice none 0 0)).toArray iReq rfl) ?_) | (refine wpList_noval rfl _ (exec_storeNew 88 _ _ rfl wA (rqZ.cells (.slice none 0 0) (.slice none 0 0)).toArray (rqZ.cells (.slice none 0 0) (.slice none 0 0)).toArray rfl rfl rfl iReq rfl (all_one (one_rq _ _ _ _ _ _ _))) ?_; refine Hid.out ?_) | fail)
  refine hid ?_
  generalize wA.alloc (.cells (rqZ.cells (.slice none 0 0) (.slice none 0 0)).toArray 88) = wB at KB RB9 SB9 ⊢
  have RAB := hid (krange_keep RA.out KB.out (by simp))
  have RBB := hid (krange_keep RB.out KB.out (by simp))
  have LA := hid (Nat.lt_of_lt_of_le LTA.out KB.out.size)
  have LB := hid (Nat.lt_of_lt_of_le LTB.out KB.out.size)
  go_wp2_with fail
  refine wp_region_any (by kernel_rfl) (wpAny_of_held (S := KpS [] wB.heap.size wB.drew) _ _ _ _ ?_)
  change wpAnyH _ _ _ _ _ _ _ _ wB.drew
  have s0 : KpS [] wB.heap.size wB.drew wB.drew := KpS.refl _ _ _
  have cA : ∀ W1, KpS [] wB.heap.size wB.drew W1 → W1.rangeAt ba 0 (r.cells v1 v2) := fun W1 h t u hu => h.cell (by rw [World.cell?_drew]; exact RAB.out t u hu) LA.out (by simp)
  have cB : ∀ W1, KpS [] wB.heap.size wB.drew W1 → W1.rangeAt bb 0 (q.cells u1 u2) := fun W1 h t u hu => h.cell (by rw [World.cell?_drew]; exact RBB.out t u hu) LB.out (by simp)
  refine held_take (i := 0) (v := .int .i64 2) rfl (by kernel_rfl) (by kernel_rfl) (by kernel_rfl) (fun _ _ _ h => h) rfl (fun W1 hW1 => rfl) (KpS.refl _ _ _) ?_
  simp only [Act.put, List.setIfInBounds_toArray, List.set_cons_zero, List.set_cons_succ]
  refine held_take (i := 1) (v := .bool true) rfl (by kernel_rfl) (by kernel_rfl) (by kernel_rfl) (fun _ _ _ h => h) rfl (fun W1 hW1 => by go_simp) (KpS.refl _ _ _) ?_
  simp only [Act.put, List.setIfInBounds_toArray, List.set_cons_zero, List.set_cons_succ]
  refine held_take (i := 2) (v := .bool true) rfl (by kernel_rfl) (by kernel_rfl) (by kernel_rfl) (fun _ _ _ h => h) rfl (fun W1 hW1 => by go_simp) (KpS.refl _ _ _) ?_
  simp only [Act.put, List.setIfInBounds_toArray, List.set_cons_zero, List.set_cons_succ]
  refine held_takeW (i := 3) (v := .int .i64 3) rfl (by kernel_rfl) (by kernel_rfl) (by kernel_rfl) (fun _ _ _ h => h) rfl (fun W1 hW1 => rfl) (KpS.refl _ _ _) ?_
  simp only [Act.put, List.setIfInBounds_toArray, List.set_cons_zero, List.set_cons_succ]
  refine held_takeW (i := 4) (v := .bool true) rfl (by kernel_rfl) (by kernel_rfl) (by kernel_rfl) (fun _ _ _ h => h) rfl (fun W1 hW1 => by go_simp) (KpS.refl _ _ _) ?_
  simp only [Act.put, List.setIfInBounds_toArray, List.set_cons_zero, List.set_cons_succ]
  refine held_take (i := 5) (v := .bool true) rfl (by kernel_rfl) (by kernel_rfl) (by kernel_rfl) (fun _ _ _ h => h) rfl (fun W1 hW1 => by go_simp) (KpS.refl _ _ _) ?_
  simp only [Act.put, List.setIfInBounds_toArray, List.set_cons_zero, List.set_cons_succ]
  refine held_take (i := 6) (v := .bool true) rfl (by kernel_rfl) (by kernel_rfl) (by kernel_rfl) (fun _ _ _ h => h) rfl (fun W1 hW1 => by go_simp) (KpS.refl _ _ _) ?_
  simp only [Act.put, List.setIfInBounds_toArray, List.set_cons_zero, List.set_cons_succ]
  refine held_takeW (i := 7) (v := .slice a4 bl.length c4) rfl (by kernel_rfl) (by kernel_rfl) (by kernel_rfl) (fun _ _ _ h => h) rfl (fun W1 hW1 => rfl) (KpS.refl _ _ _) ?_
  simp only [Act.put, List.setIfInBounds_toArray, List.set_cons_zero, List.set_cons_succ]
  refine held_takeW (i := 8) (v := .slice a5 cl.length c5) rfl (by kernel_rfl) (by kernel_rfl) (by kernel_rfl) (fun _ _ _ h => h) rfl (fun W1 hW1 => rfl) (KpS.refl _ _ _) ?_
  simp only [Act.put, List.setIfInBounds_toArray, List.set_cons_zero, List.set_cons_succ]
  refine held_takeW (i := 10) (v := rqV r v1 v2) rfl (by kernel_rfl) (by kernel_rfl) (by kernel_rfl) (fun _ _ _ h => h) rfl (fun W1 hW1 => exec_load _ _ _ _ rfl rfl (loadRq 94 urReq srReq W1 ba r v1 v2 (cA W1 hW1))) (KpS.refl _ _ _) ?_
  simp only [Act.put, List.setIfInBounds_toArray, List.set_cons_zero, List.set_cons_succ]
  refine held_takeW (i := 11) (v := rqV q u1 u2) rfl (by kernel_rfl) (by kernel_rfl) (by kernel_rfl) (fun _ _ _ h => h) rfl (fun W1 hW1 => exec_load _ _ _ _ rfl rfl (loadRq 94 urReq srReq W1 bb q u1 u2 (cB W1 hW1))) (KpS.refl _ _ _) ?_
  simp only [Act.put, List.setIfInBounds_toArray, List.set_cons_zero, List.set_cons_succ]
  refine held_doW (i := 9) (by kernel_rfl) rfl rfl (wp_enter (f := 16) (args := #[.slice a4 bl.length c4, .slice a5 cl.length c5]) (by go_simp) (same_any _ _ _ bl cl (RB9.out.keep (Keeps.refl [] wB).drew (by intro _ _ _ _ _; simp)) (SB9.out.keep (Keeps.refl [] wB).drew (by intro _ _ _ _ _; simp)) (by have := HBL.out; omega) (by have := HCL.out; omega)) ?_)
  rintro e y1 ⟨rfl, n1, e1⟩
  have k1 : Keeps [] wB.drew y1 := by rw [e1]; exact (Keeps.refl [] wB.drew).drewN n1
  have s1 : KpS [] wB.heap.size wB.drew y1 := s0.keeps k1 s0.size (by simp)
  have h1 : Keeps [] wB y1 := (Keeps.refl [] wB).drew.trans k1
  clear e1
  obtain ⟨z1, hz1⟩ : ∃ z, z = decide (bl = cl) := ⟨_, rfl⟩
  rw [← hz1]
  refine ⟨_, rfl, s1, ?_⟩
  simp only [Act.put, List.setIfInBounds_toArray, List.set_cons_zero, List.set_cons_succ]
  refine held_doW (i := 12) (by kernel_rfl) rfl rfl (wp_enter (f := 46) (args := #[rqV r v1 v2, rqV q u1 u2]) (by go_simp) (sameQ_any y1 r q v1 v2 u1 u2 (HR.out.keep (KB.out.trans h1)) (HQ.out.keep (KB.out.trans h1)) (MR.out.keep (KB.out.trans h1)) (MQ.out.keep (KB.out.trans h1))) ?_)
  rintro e y2 ⟨z2, rfl, hz2, k2⟩
  have s2 : KpS [] wB.heap.size wB.drew y2 := s1.keeps k2 s1.size (by simp)
  have h2 : Keeps [] wB y2 := h1.trans k2
  have ZZ : z1 = z2 := by
    rw [hz1]
    by_cases hrq : r = q
    · rw [hz2.2 hrq]
      exact decide_eq_true (by rw [BL.out, CL.out, hrq])
    · have : z2 = false := by
        cases hzz : z2 with
        | false => rfl
        | true => exact absurd (hz2.1 hzz) hrq
      rw [this]
      exact decide_eq_false (fun e => hrq (inj_b rqC_ok FR.out FQ.out (by rw [← BL.out, ← CL.out]; exact e)))
  subst ZZ
  refine ⟨_, rfl, s2, ?_⟩
  simp only [Act.put, List.setIfInBounds_toArray, List.set_cons_zero, List.set_cons_succ]
  refine held_takeW (i := 13) (v := .bool true) rfl (by kernel_rfl) (by kernel_rfl) (by kernel_rfl) (fun _ _ _ h => h) rfl (fun W1 hW1 => by cases z1 <;> go_simp) (s2) ?_
  simp only [Act.put, List.setIfInBounds_toArray, List.set_cons_zero, List.set_cons_succ]
  refine held_take (i := 14) (v := .bool true) rfl (by kernel_rfl) (by kernel_rfl) (by kernel_rfl) (fun _ _ _ h => h) rfl (fun W1 hW1 => by go_simp) (s2) ?_
  simp only [Act.put, List.setIfInBounds_toArray, List.set_cons_zero, List.set_cons_succ]
  refine held_take (i := 15) (v := .bool true) rfl (by kernel_rfl) (by kernel_rfl) (by kernel_rfl) (fun _ _ _ h => h) rfl (fun W1 hW1 => by go_simp) (s2) ?_
  simp only [Act.put, List.setIfInBounds_toArray, List.set_cons_zero, List.set_cons_succ]
  refine wpAnyH_done (by kernel_rfl) ?_ _
  have KE := hid (KA.out.trans (KB.out.trans h2))
  clear cA cB s0 s1 s2 k1 k2 h1 h2 hz1 hz2
  go_wp2_with fail
  go_ret
  exact ⟨rfl, KE.out⟩
end Go.Proofs.Ytjohikekhgcepaa


/- note: how entries, sized stripes, deltas, a request and a reply that came in are read. -/
namespace Go.Proofs.Ytjohikekhgcepaa
open Go.Deep Go.ChangeShapes Go.WideShapes Go.ChangeAt Go.RowKit Go.Shelf
set_option maxRecDepth 100000
set_option linter.unusedSimpArgs false
set_option linter.unusedVariables false

section
variable {H : Type} {enc : TypeId × Value → H}
/-- A slice of a kind that came in. -/
theorem ls_of_trod {α : Type} {K : Kn α} {T TS : TypeId} {Q : α → Prop} {W : World} {fuel : Nat} {cs : List Value} {x : DataW H × List MemPlace} (hc : Try.prog.cellsOf T = K.n) (hlen : ∀ y, (K.cells y).length = K.n) (hp : 0 < K.n) (hu : Try.prog.underlying TS = some (.slice T))
    (op : ∀ (fuel : Nat) (cs : List Value) (x : DataW H × List MemPlace), cs.length = K.n → DataW.trod enc Try.prog W 0 (fun _ => true) true fuel T cs = some x → ∃ d, cs = K.cells d ∧ Q d)
    (h : DataW.trod enc Try.prog W 0 (fun _ => true) true fuel TS cs = some x) : ∃ v ds, cs = [v] ∧ LsAt K W v ds ∧ ∀ d ∈ ds, Q d := by
  rcases Go.Deep.open_slice hu h with ⟨rfl, _⟩ | ⟨a, len, cap, m, n, D, Pl, rfl, _, hl, hm, hmm, rfl, hi⟩
  · exact ⟨_, [], rfl, ⟨none, 0, rfl, by simp, by simp, fun _ => rfl, fun h => absurd rfl h⟩, by simp⟩
  · simp only [if_true] at hmm
    subst hmm
    by_cases h0 : len = 0
    · subst h0
      exact ⟨_, [], rfl, ⟨some a, m, rfl, by simp, hm, by simp, fun h => absurd rfl h⟩, by simp⟩
    · obtain ⟨g, off, sp⟩ := a
      have hsp : sp = none := by
        obtain ⟨cs0, hc0, _⟩ := hi 0 (by omega)
        rw [hc] at hc0
        obtain ⟨_, hl4, hat⟩ := World.cells?_some hc0
        have := hat 0 (by omega)
        rw [List.getElem?_eq_getElem (by omega)] at this
        have hs := World.cell?_spot this
        simpa [Addr.add] using hs
      subst hsp
      obtain ⟨ds, hdl, hda⟩ := list_of (P := fun i (d : α) => W.rangeAt g (off + i * K.n) (K.cells d) ∧ Q d) len (fun i hil => by
        obtain ⟨cs', hc1, ht⟩ := hi i (by omega)
        rw [hc, Addr.add_lit] at hc1
        obtain ⟨_, hl4b, hat⟩ := World.cells?_some hc1
        have hr : W.rangeAt g (off + i * K.n) cs' := fun j u hu => by
          have hj := (List.getElem?_eq_some_iff.1 hu).1
          have := hat j (by omega)
          rw [Addr.add_lit] at this
          rw [this]; exact hu
        obtain ⟨d, rfl, hq⟩ := op _ _ _ hl4b ht
        exact ⟨d, hr, hq⟩)
      refine ⟨_, ds, rfl, ⟨some ⟨g, off, none⟩, m, by rw [hdl], by omega, hm, by simp, fun _ => ⟨g, off, rfl, ?_, fun i hi => (hda i hi).1⟩⟩, ?_⟩
      · have h1 := (hda 0 (by omega)).1
        have h2 := hlen (ds[0]'(by omega))
        have := h1 0 ((K.cells (ds[0]'(by omega)))[0]'(by omega)) (List.getElem?_eq_getElem (by omega))
        exact World.block_lt_of_cell? _ _ this
      · intro d hd
        obtain ⟨i, hi', rfl⟩ := List.getElem_of_mem hd
        exact (hda i hi').2
/-- Bytes that came in. -/
theorem rowN_of_trod {W : World} {fuel : Nat} {cs : List Value} {x : DataW H × List MemPlace} (h : DataW.trod enc Try.prog W 0 (fun _ => true) true fuel 28 cs = some x) : ∃ v zs, cs = [v] ∧ RowAt W v zs := by
  rcases open_ints Try.underlying28 Try.underlying5 cells_u8 h with ⟨rfl, _⟩ | ⟨a, len, cap, zs, rfl, _, hl, hm, hz, rfl, hcell, hwz⟩
  · exact ⟨_, [], rfl, RowAt.nil W⟩
  · simp only [if_true] at hz
    have hlen : (zs.take len).length = len := by rw [List.length_take]; omega
    refine ⟨_, zs.take len, rfl, ⟨some a, cap, by rw [hlen], by rw [hlen]; exact hl, hm, by simp, ?_, ?_⟩⟩
    · intro z hzm
      exact bounds_u8 (hwz z (List.mem_of_mem_take hzm))
    · intro ad had j u hu
      obtain rfl := Option.some.inj had
      have hj : j < len := by
        have := (List.getElem?_eq_some_iff.1 hu).1
        simp at this; omega
      rw [hcell j (by omega), ← hu]
      rw [List.getElem?_map, List.getElem?_take, if_pos hj, List.getElem?_eq_getElem (by omega), List.getD_eq_getElem?_getD, List.getElem?_eq_getElem (by omega)]
      rfl
theorem cStrT : Try.prog.cellsOf 9 = 1 := by kernel_rfl
theorem cIntT : Try.prog.cellsOf 3 = 1 := by kernel_rfl
theorem cBoolT : Try.prog.cellsOf 4 = 1 := by kernel_rfl
theorem cEntT : Try.prog.cellsOf 106 = 3 := by kernel_rfl
theorem cEntsT : Try.prog.cellsOf 77 = 1 := by kernel_rfl
theorem cStT : Try.prog.cellsOf 23 = 3 := by kernel_rfl
theorem cSpT : Try.prog.cellsOf 91 = 3 := by kernel_rfl
theorem cSzT : Try.prog.cellsOf 163 = 4 := by kernel_rfl
theorem cSzsT : Try.prog.cellsOf 92 = 1 := by kernel_rfl
theorem cDlsT : Try.prog.cellsOf 86 = 1 := by kernel_rfl
theorem cBytesT : Try.prog.cellsOf 28 = 1 := by kernel_rfl
theorem cRepT : Try.prog.cellsOf 104 = 8 := by kernel_rfl
theorem cReqT : Try.prog.cellsOf 94 = 14 := by kernel_rfl

theorem ent_of_trod {W : World} {fuel : Nat} {cs : List Value} {x : DataW H × List MemPlace} (hl : cs.length = 3) (h : DataW.trod enc Try.prog W 0 (fun _ => true) true fuel 106 cs = some x) : ∃ d : Ent, cs = KEnt.cells d ∧ d.nm.size ≤ maxLen ∧ (Lit.int .i64 d.ino).wf = true := by
  match cs, hl with
  | [c0, c1, c2], _ =>
    obtain ⟨ys, n, _, hx, _, hyl, hf⟩ := DataW.trod_struct Try.underlying106 h
    have t0 : DataW.trod enc Try.prog W 0 (fun _ => true) true n 9 (([c0, c1, c2].drop 0).take (Try.prog.cellsOf 9)) = ys[0]? := hf 0 _ rfl
    have t1 : DataW.trod enc Try.prog W 0 (fun _ => true) true n 3 (([c0, c1, c2].drop 1).take (Try.prog.cellsOf 3)) = ys[1]? := hf 1 _ rfl
    have t2 : DataW.trod enc Try.prog W 0 (fun _ => true) true n 4 (([c0, c1, c2].drop 2).take (Try.prog.cellsOf 4)) = ys[2]? := hf 2 _ rfl
    simp only [cStrT, cIntT, cBoolT, cEntT, cEntsT, cStT, cSpT, cSzT, cSzsT, cDlsT, cBytesT, List.drop_zero, List.drop_succ_cons, List.take_succ_cons, List.take_zero] at t0 t1 t2
    match ys, hyl with
    | [y0, y1, y2], _ =>
      simp only [List.getElem?_cons_zero, List.getElem?_cons_succ] at t0 t1 t2
      obtain ⟨z0, e0, _, w0⟩ := DataW.trod_string Try.underlying9 t0
      injection e0 with e0 _
      subst e0
      obtain ⟨z1, e1, _, w1⟩ := DataW.trod_int Try.underlying3 t1
      injection e1 with e1 _
      subst e1
      obtain ⟨z2, e2, _⟩ := DataW.trod_bool Try.underlying4 t2
      injection e2 with e2 _
      subst e2
      exact ⟨⟨z0, z1, z2⟩, rfl, w0, w1⟩
theorem st3_of_trod {W : World} {fuel : Nat} {T : TypeId} {f0 f1 f2 : Field} {c0 c1 c2 : Value} {x : DataW H × List MemPlace} (hu : Try.prog.underlying T = some (.struct #[f0, f1, f2])) (q0 : f0.type = 3 ∧ f0.offset = 0) (q1 : f1.type = 3 ∧ f1.offset = 1) (q2 : f2.type = 3 ∧ f2.offset = 2) (h : DataW.trod enc Try.prog W 0 (fun _ => true) true fuel T [c0, c1, c2] = some x) :
    ∃ z0 z1 z2, c0 = .int .i64 z0 ∧ c1 = .int .i64 z1 ∧ c2 = .int .i64 z2 ∧ (Lit.int .i64 z0).wf = true ∧ (Lit.int .i64 z1).wf = true ∧ (Lit.int .i64 z2).wf = true := by
  obtain ⟨y0, y1, y2, m2, e, _, t0, t1, t2⟩ := trod_struct3 hu h
  rw [q0.1, q0.2] at t0
  rw [q1.1, q1.2] at t1
  rw [q2.1, q2.2] at t2
  simp only [cStrT, cIntT, cBoolT, cEntT, cEntsT, cStT, cSpT, cSzT, cSzsT, cDlsT, cBytesT, List.drop_zero, List.drop_succ_cons, List.take_succ_cons, List.take_zero, List.take_nil] at t0 t1 t2
  obtain ⟨z0, e0, _, w0⟩ := DataW.trod_int Try.underlying3 t0
  obtain ⟨z1, e1, _, w1⟩ := DataW.trod_int Try.underlying3 t1
  obtain ⟨z2, e2, _, w2⟩ := DataW.trod_int Try.underlying3 t2
  simp at e0 e1 e2
  exact ⟨z0, z1, z2, e0, e1, e2, w0, w1, w2⟩
theorem sz_of_trod {W : World} {fuel : Nat} {cs : List Value} {x : DataW H × List MemPlace} (hl : cs.length = 4) (h : DataW.trod enc Try.prog W 0 (fun _ => true) true fuel 163 cs = some x) : ∃ d : Sz, cs = KSz.cells d ∧ (Lit.int .i64 d.c).wf = true ∧ (Lit.int .i64 d.l).wf = true ∧ (Lit.int .i64 d.n).wf = true ∧ (Lit.int .i64 d.s).wf = true := by
  match cs, hl with
  | [c0, c1, c2, c3], _ =>
    obtain ⟨ys, n, _, hx, _, hyl, hf⟩ := DataW.trod_struct Try.underlying163 h
    have t0 : DataW.trod enc Try.prog W 0 (fun _ => true) true n 23 (([c0, c1, c2, c3].drop 0).take (Try.prog.cellsOf 23)) = ys[0]? := hf 0 _ rfl
    have t1 : DataW.trod enc Try.prog W 0 (fun _ => true) true n 3 (([c0, c1, c2, c3].drop 3).take (Try.prog.cellsOf 3)) = ys[1]? := hf 1 _ rfl
    simp only [cStrT, cIntT, cBoolT, cEntT, cEntsT, cStT, cSpT, cSzT, cSzsT, cDlsT, cBytesT, List.drop_zero, List.drop_succ_cons, List.take_succ_cons, List.take_zero] at t0 t1
    match ys, hyl with
    | [y0, y1], _ =>
      simp only [List.getElem?_cons_zero, List.getElem?_cons_succ] at t0 t1
      obtain ⟨z0, z1, z2, rfl, rfl, rfl, w0, w1, w2⟩ := st3_of_trod Try.underlying23 ⟨rfl, rfl⟩ ⟨rfl, rfl⟩ ⟨rfl, rfl⟩ t0
      obtain ⟨z3, e3, _, w3⟩ := DataW.trod_int Try.underlying3 t1
      injection e3 with e3 _
      subst e3
      exact ⟨⟨z0, z1, z2, z3⟩, rfl, w0, w1, w2, w3⟩
theorem ents_of_trod {W : World} {fuel : Nat} {cs : List Value} {x : DataW H × List MemPlace} (h : DataW.trod enc Try.prog W 0 (fun _ => true) true fuel 77 cs = some x) : ∃ v ds, cs = [v] ∧ LsAt KEnt W v ds ∧ ∀ d ∈ ds, d.nm.size ≤ maxLen ∧ (Lit.int .i64 d.ino).wf = true :=
  ls_of_trod cEntT (fun _ => rfl) (by decide) Try.underlying77 (fun _ _ _ hl h => ent_of_trod hl h) h
theorem szs_of_trod {W : World} {fuel : Nat} {cs : List Value} {x : DataW H × List MemPlace} (h : DataW.trod enc Try.prog W 0 (fun _ => true) true fuel 92 cs = some x) : ∃ v ds, cs = [v] ∧ LsAt KSz W v ds ∧ ∀ d ∈ ds, (Lit.int .i64 d.c).wf = true ∧ (Lit.int .i64 d.l).wf = true ∧ (Lit.int .i64 d.n).wf = true ∧ (Lit.int .i64 d.s).wf = true :=
  ls_of_trod cSzT (fun _ => rfl) (by decide) Try.underlying92 (fun _ _ _ hl h => sz_of_trod hl h) h
theorem dls_of_trod {W : World} {fuel : Nat} {cs : List Value} {x : DataW H × List MemPlace} (h : DataW.trod enc Try.prog W 0 (fun _ => true) true fuel 86 cs = some x) : ∃ v ds, cs = [v] ∧ LsAt KDl W v ds := by
  obtain ⟨v, ds, e, hl, _⟩ := ls_of_trod (K := KDl) (Q := fun _ => True) (T := 169) (by kernel_rfl) (fun _ => rfl) (by decide) Try.underlying86 (fun _ _ _ hl h => by obtain ⟨d, hd⟩ := dl_of_trod hl h; exact ⟨d, hd, trivial⟩) h
  exact ⟨v, ds, e, hl⟩

theorem rep_of_trod {W : World} {base : Nat} {v : Value} {d : DataW H} {p : List MemPlace} (hv : Value.okWide Try.prog W .any base 104 v) (h : DataW.Trod enc Try.prog W 0 (fun _ => true) true 104 v d p) : ∃ r v1 v2, v = rpV r v1 v2 ∧ LsAt KEnt W v1 r.es ∧ RowAt W v2 r.mp ∧ i64 r.e ∧ i64 r.ino ∧ i64 r.sz ∧ i64 r.ha ∧ i64 r.sw ∧ ∀ x ∈ r.es, i64 x.ino := by
  obtain ⟨cs, rfl, hsz, _⟩ : ∃ cs, v = .agg cs ∧ cs.size = Try.prog.cellsOf 104 ∧ Row.okWide Try.prog W .any base 104 cs := by
    simpa [Value.okWide, Try.underlying104] using hv
  rw [cRepT] at hsz
  obtain ⟨l⟩ := cs
  obtain ⟨c0, c1, c2, c3, c4, c5, c6, c7, rfl⟩ : ∃ c0 c1 c2 c3 c4 c5 c6 c7, l = [c0, c1, c2, c3, c4, c5, c6, c7] := by
    match l, hsz with
    | [c0, c1, c2, c3, c4, c5, c6, c7], _ => exact ⟨c0, c1, c2, c3, c4, c5, c6, c7, rfl⟩
  obtain ⟨fuel, h1⟩ := h
  replace h1 : DataW.trod enc Try.prog W 0 (fun _ => true) true fuel 104 [c0, c1, c2, c3, c4, c5, c6, c7] = some (d, p) := h1
  obtain ⟨ys, n, _, hx, _, hyl, hf⟩ := DataW.trod_struct Try.underlying104 h1
  have t0 : DataW.trod enc Try.prog W 0 (fun _ => true) true n 3 (([c0, c1, c2, c3, c4, c5, c6, c7].drop 0).take (Try.prog.cellsOf 3)) = ys[0]? := hf 0 _ rfl
  have t1 : DataW.trod enc Try.prog W 0 (fun _ => true) true n 3 (([c0, c1, c2, c3, c4, c5, c6, c7].drop 1).take (Try.prog.cellsOf 3)) = ys[1]? := hf 1 _ rfl
  have t2 : DataW.trod enc Try.prog W 0 (fun _ => true) true n 3 (([c0, c1, c2, c3, c4, c5, c6, c7].drop 2).take (Try.prog.cellsOf 3)) = ys[2]? := hf 2 _ rfl
  have t3 : DataW.trod enc Try.prog W 0 (fun _ => true) true n 3 (([c0, c1, c2, c3, c4, c5, c6, c7].drop 3).take (Try.prog.cellsOf 3)) = ys[3]? := hf 3 _ rfl
  have t4 : DataW.trod enc Try.prog W 0 (fun _ => true) true n 3 (([c0, c1, c2, c3, c4, c5, c6, c7].drop 4).take (Try.prog.cellsOf 3)) = ys[4]? := hf 4 _ rfl
  have t5 : DataW.trod enc Try.prog W 0 (fun _ => true) true n 4 (([c0, c1, c2, c3, c4, c5, c6, c7].drop 5).take (Try.prog.cellsOf 4)) = ys[5]? := hf 5 _ rfl
  have t6 : DataW.trod enc Try.prog W 0 (fun _ => true) true n 77 (([c0, c1, c2, c3, c4, c5, c6, c7].drop 6).take (Try.prog.cellsOf 77)) = ys[6]? := hf 6 _ rfl
  have t7 : DataW.trod enc Try.prog W 0 (fun _ => true) true n 28 (([c0, c1, c2, c3, c4, c5, c6, c7].drop 7).take (Try.prog.cellsOf 28)) = ys[7]? := hf 7 _ rfl
  simp only [cStrT, cIntT, cBoolT, cEntT, cEntsT, cStT, cSpT, cSzT, cSzsT, cDlsT, cBytesT, List.drop_zero, List.drop_succ_cons, List.take_succ_cons, List.take_zero] at t0 t1 t2 t3 t4 t5 t6 t7
  match ys, hyl with
  | [y0, y1, y2, y3, y4, y5, y6, y7], _ =>
    simp only [List.getElem?_cons_zero, List.getElem?_cons_succ] at t0 t1 t2 t3 t4 t5 t6 t7
    obtain ⟨z0, e0, _, w0⟩ := DataW.trod_int Try.underlying3 t0
    injection e0 with e0 _
    subst e0
    obtain ⟨z1, e1, _, w1⟩ := DataW.trod_int Try.underlying3 t1
    injection e1 with e1 _
    subst e1
    obtain ⟨z2, e2, _, w2⟩ := DataW.trod_int Try.underlying3 t2
    injection e2 with e2 _
    subst e2
    obtain ⟨z3, e3, _, w3⟩ := DataW.trod_int Try.underlying3 t3
    injection e3 with e3 _
    subst e3
    obtain ⟨z4, e4, _, w4⟩ := DataW.trod_int Try.underlying3 t4
    injection e4 with e4 _
    subst e4
    obtain ⟨z5, e5, _⟩ := DataW.trod_bool Try.underlying4 t5
    injection e5 with e5 _
    subst e5
    obtain ⟨v6, x6, e6, r6, w6⟩ := ents_of_trod t6
    injection e6 with e6 _
    subst e6
    obtain ⟨v7, x7, e7, r7⟩ := rowN_of_trod t7
    injection e7 with e7 _
    subst e7
    exact ⟨⟨z0, z1, z2, z3, z4, z5, x6, x7⟩, _, _, rfl, r6, r7, i64_of w0, i64_of w1, i64_of w2, i64_of w3, i64_of w4, fun x hx => i64_of (w6 x hx).2⟩
theorem req_of_trod {W : World} {base : Nat} {v : Value} {d : DataW H} {p : List MemPlace} (hv : Value.okWide Try.prog W .any base 94 v) (h : DataW.Trod enc Try.prog W 0 (fun _ => true) true 94 v d p) : ∃ r v1 v2, v = rqV r v1 v2 ∧ LsAt KSz W v1 r.ss ∧ LsAt KDl W v2 r.dl ∧ r.pa.size ≤ maxLen ∧ r.tp.size ≤ maxLen := by
  obtain ⟨cs, rfl, hsz, _⟩ : ∃ cs, v = .agg cs ∧ cs.size = Try.prog.cellsOf 94 ∧ Row.okWide Try.prog W .any base 94 cs := by
    simpa [Value.okWide, Try.underlying94] using hv
  rw [cReqT] at hsz
  obtain ⟨l⟩ := cs
  obtain ⟨c0, c1, c2, c3, c4, c5, c6, c7, c8, c9, c10, c11, c12, c13, rfl⟩ : ∃ c0 c1 c2 c3 c4 c5 c6 c7 c8 c9 c10 c11 c12 c13, l = [c0, c1, c2, c3, c4, c5, c6, c7, c8, c9, c10, c11, c12, c13] := by
    match l, hsz with
    | [c0, c1, c2, c3, c4, c5, c6, c7, c8, c9, c10, c11, c12, c13], _ => exact ⟨c0, c1, c2, c3, c4, c5, c6, c7, c8, c9, c10, c11, c12, c13, rfl⟩
  obtain ⟨fuel, h1⟩ := h
  replace h1 : DataW.trod enc Try.prog W 0 (fun _ => true) true fuel 94 [c0, c1, c2, c3, c4, c5, c6, c7, c8, c9, c10, c11, c12, c13] = some (d, p) := h1
  obtain ⟨ys, n, _, hx, _, hyl, hf⟩ := DataW.trod_struct Try.underlying94 h1
  have t0 : DataW.trod enc Try.prog W 0 (fun _ => true) true n 91 (([c0, c1, c2, c3, c4, c5, c6, c7, c8, c9, c10, c11, c12, c13].drop 0).take (Try.prog.cellsOf 91)) = ys[0]? := hf 0 _ rfl
  have t1 : DataW.trod enc Try.prog W 0 (fun _ => true) true n 3 (([c0, c1, c2, c3, c4, c5, c6, c7, c8, c9, c10, c11, c12, c13].drop 3).take (Try.prog.cellsOf 3)) = ys[1]? := hf 1 _ rfl
  have t2 : DataW.trod enc Try.prog W 0 (fun _ => true) true n 9 (([c0, c1, c2, c3, c4, c5, c6, c7, c8, c9, c10, c11, c12, c13].drop 4).take (Try.prog.cellsOf 9)) = ys[2]? := hf 2 _ rfl
  have t3 : DataW.trod enc Try.prog W 0 (fun _ => true) true n 9 (([c0, c1, c2, c3, c4, c5, c6, c7, c8, c9, c10, c11, c12, c13].drop 5).take (Try.prog.cellsOf 9)) = ys[3]? := hf 3 _ rfl
  have t4 : DataW.trod enc Try.prog W 0 (fun _ => true) true n 4 (([c0, c1, c2, c3, c4, c5, c6, c7, c8, c9, c10, c11, c12, c13].drop 6).take (Try.prog.cellsOf 4)) = ys[4]? := hf 4 _ rfl
  have t5 : DataW.trod enc Try.prog W 0 (fun _ => true) true n 4 (([c0, c1, c2, c3, c4, c5, c6, c7, c8, c9, c10, c11, c12, c13].drop 7).take (Try.prog.cellsOf 4)) = ys[5]? := hf 5 _ rfl
  have t6 : DataW.trod enc Try.prog W 0 (fun _ => true) true n 4 (([c0, c1, c2, c3, c4, c5, c6, c7, c8, c9, c10, c11, c12, c13].drop 8).take (Try.prog.cellsOf 4)) = ys[6]? := hf 6 _ rfl
  have t7 : DataW.trod enc Try.prog W 0 (fun _ => true) true n 3 (([c0, c1, c2, c3, c4, c5, c6, c7, c8, c9, c10, c11, c12, c13].drop 9).take (Try.prog.cellsOf 3)) = ys[7]? := hf 7 _ rfl
  have t8 : DataW.trod enc Try.prog W 0 (fun _ => true) true n 3 (([c0, c1, c2, c3, c4, c5, c6, c7, c8, c9, c10, c11, c12, c13].drop 10).take (Try.prog.cellsOf 3)) = ys[8]? := hf 8 _ rfl
  have t9 : DataW.trod enc Try.prog W 0 (fun _ => true) true n 3 (([c0, c1, c2, c3, c4, c5, c6, c7, c8, c9, c10, c11, c12, c13].drop 11).take (Try.prog.cellsOf 3)) = ys[9]? := hf 9 _ rfl
  have t10 : DataW.trod enc Try.prog W 0 (fun _ => true) true n 92 (([c0, c1, c2, c3, c4, c5, c6, c7, c8, c9, c10, c11, c12, c13].drop 12).take (Try.prog.cellsOf 92)) = ys[10]? := hf 10 _ rfl
  have t11 : DataW.trod enc Try.prog W 0 (fun _ => true) true n 86 (([c0, c1, c2, c3, c4, c5, c6, c7, c8, c9, c10, c11, c12, c13].drop 13).take (Try.prog.cellsOf 86)) = ys[11]? := hf 11 _ rfl
  simp only [cStrT, cIntT, cBoolT, cEntT, cEntsT, cStT, cSpT, cSzT, cSzsT, cDlsT, cBytesT, List.drop_zero, List.drop_succ_cons, List.take_succ_cons, List.take_zero] at t0 t1 t2 t3 t4 t5 t6 t7 t8 t9 t10 t11
  match ys, hyl with
  | [y0, y1, y2, y3, y4, y5, y6, y7, y8, y9, y10, y11], _ =>
    simp only [List.getElem?_cons_zero, List.getElem?_cons_succ] at t0 t1 t2 t3 t4 t5 t6 t7 t8 t9 t10 t11
    obtain ⟨s0, s1, s2, rfl, rfl, rfl, u0, u1, u2⟩ := st3_of_trod Try.underlying91 ⟨rfl, rfl⟩ ⟨rfl, rfl⟩ ⟨rfl, rfl⟩ t0
    obtain ⟨z1, e1, _, w1⟩ := DataW.trod_int Try.underlying3 t1
    injection e1 with e1 _
    subst e1
    obtain ⟨z2, e2, _, w2⟩ := DataW.trod_string Try.underlying9 t2
    injection e2 with e2 _
    subst e2
    obtain ⟨z3, e3, _, w3⟩ := DataW.trod_string Try.underlying9 t3
    injection e3 with e3 _
    subst e3
    obtain ⟨z4, e4, _⟩ := DataW.trod_bool Try.underlying4 t4
    injection e4 with e4 _
    subst e4
    obtain ⟨z5, e5, _⟩ := DataW.trod_bool Try.underlying4 t5
    injection e5 with e5 _
    subst e5
    obtain ⟨z6, e6, _⟩ := DataW.trod_bool Try.underlying4 t6
    injection e6 with e6 _
    subst e6
    obtain ⟨z7, e7, _, w7⟩ := DataW.trod_int Try.underlying3 t7
    injection e7 with e7 _
    subst e7
    obtain ⟨z8, e8, _, w8⟩ := DataW.trod_int Try.underlying3 t8
    injection e8 with e8 _
    subst e8
    obtain ⟨z9, e9, _, w9⟩ := DataW.trod_int Try.underlying3 t9
    injection e9 with e9 _
    subst e9
    obtain ⟨v10, x10, e10, r10, w10⟩ := szs_of_trod t10
    injection e10 with e10 _
    subst e10
    obtain ⟨v11, x11, e11, r11⟩ := dls_of_trod t11
    injection e11 with e11 _
    subst e11
    exact ⟨⟨s0, s1, s2, z1, z2, z3, z4, z5, z6, z7, z8, z9, x10, x11⟩, _, _, rfl, r10, r11, w2, w3⟩
end
end Go.Proofs.Ytjohikekhgcepaa


/- Cuts, longer bytes, unlike requests (the law NoteCuts): the law returns true. No condition. -/
namespace Go.Proofs.Ytjohikekhgcepaa
open Go.ChangeShapes Go.WideShapes Go.ChangeAt Go.RowKit

set_option maxRecDepth 100000 in
theorem cuts16_lifted (os : Os) (started : os.Started) (H : Type) (enc : TypeId × Value → H) :
    ReturnsInHanded {} Try.checked os 8 .any (Rows.noteCutsSpec.pre6 enc Try.prog Try.f8 Rows.noteCutsRow.domain false) (Rows.noteCutsSpec.post enc Try.prog Try.f8 false true false false) := by
  refine returnsInHanded_of_change (C := Try.checked) own started (by kernel_rfl) Try.func8
    (ChangeSpec.witness6 (enc := enc) (C := Try.checked) false ⟨#[], #[.agg #[.int .i64 0, .int .i64 0, .int .i64 0, .int .i64 0, .string ⟨#[]⟩, .string ⟨#[]⟩, .bool false, .bool false, .bool false, .int .i64 0, .int .i64 0, .int .i64 0, .slice none 0 0, .slice none 0 0], .agg #[.int .i64 0, .int .i64 0, .int .i64 0, .int .i64 0, .string ⟨#[]⟩, .string ⟨#[]⟩, .bool false, .bool false, .bool false, .int .i64 0, .int .i64 0, .int .i64 0, .slice none 0 0, .slice none 0 0], .int .i64 0], []⟩ 8 (by kernel_rfl) (by kernel_rfl) (by kernel_rfl) (by kernel_rfl)) ?_
  intro W base args ds gs before hval0 hW hcnd _
  have hval : ∀ (j : Nat) t v, Try.f8.params[j]? = some t → args[j]? = some v → Value.okWide Try.prog W .any base t v := hval0
  have hW' := hW
  obtain ⟨p, q, hA0, hV, rfl, hfz, hnd⟩ := hW
  have hA : DataW.TrodAll enc Try.prog W 0 (fun _ => true) true Try.f8.params.toList args.toList ds p := hA0
  rw [Try.params8] at hA hval
  obtain ⟨v0, vs0, d0, ds0, p0, q0, hargs, rfl, rfl, h0, r0⟩ := trodAll_cons hA
  obtain ⟨v1, vs1, d1, ds1, p1, q1, rfl, rfl, rfl, h1, r1⟩ := trodAll_cons r0
  obtain ⟨v2, vs2, d2, ds2, p2, q2, rfl, rfl, rfl, h2, r2⟩ := trodAll_cons r1
  obtain ⟨rfl, rfl, rfl⟩ := trodAll_nil r2
  obtain rfl : args = #[v0, v1, v2] := by cases args; simp_all
  obtain ⟨rfl, rfl⟩ := trodVars_none hV
  have k0 := h0
  have lt0 : ∀ x ∈ p0, x.block < W.heap.size := by obtain ⟨m, hm⟩ := k0; exact DataW.trod_lt m _ _ _ hm
  have k1 := h1
  have lt1 : ∀ x ∈ p1, x.block < W.heap.size := by obtain ⟨m, hm⟩ := k1; exact DataW.trod_lt m _ _ _ hm
  obtain ⟨x0, u0, s0, rfl, l0, m0, i0⟩ := req_of_trod (hval 0 94 v0 rfl rfl) h0
  obtain ⟨x1, u1, s1, rfl, l1, m1, i1⟩ := req_of_trod (hval 1 94 v1 rfl rfl) h1
  obtain ⟨z2, rfl, rfl, rfl, w2⟩ := open_int Try.underlying3 (hval 2 3 v2 rfl rfl) h2
  clear hA0 hval0
  refine (cuts16_any W x0 x1 u0 s0 u1 s1 z2 l0 m0 l1 m1).mono fun e W' ⟨he, hk⟩ => ?_
  subst he
  have bel : Below W.heap.size W W' := hk.below (Nat.le_refl _) (by simp)
  exact ⟨_, rfl, _, _, _, [], _, [], hW', trodAll_mk1 (shut_bool Try.underlying4 _), (trodAll_cons_mk (Below.trod laidOut (by kernel_rfl) (of_decide_eq_true (by kernel_rfl)) k0 bel lt0) (trodAll_cons_mk (Below.trod laidOut (by kernel_rfl) (of_decide_eq_true (by kernel_rfl)) k1 bel lt1) (trodAll_cons_mk (shut_int Try.underlying3 w2) trodAll_mk0))), rfl, bel.frame _, fun h => by cases h⟩

theorem cuts16_holds : Rows.NoteCutsSaid :=
  OpenClaim.holds_of_wide 8 Try.f8 rfl rfl rfl rfl rfl rfl rfl ⟨rfl, rfl, rfl, rfl, rfl⟩ rfl rfl rfl rfl rfl (by kernel_rfl) Try.func8 (by kernel_rfl)
    (of_decide_eq_true (by kernel_rfl)) (by unfold Func.isWrapper; rw [if_neg (of_decide_eq_false (by kernel_rfl))]; exact ⟨rfl, rfl⟩)
    (fun os started H enc _ => cuts16_lifted os started H enc)
end Go.Proofs.Ytjohikekhgcepaa
