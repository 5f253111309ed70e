/- pack: the code's mayLie. -/
import Derived.Test.YtcfmonlgpccndaaDoorPkC
namespace Go.Proofs.YtcfmonlgpccndaaDoor
open Go.RowKit Go.Shelf
set_option maxRecDepth 100000
set_option linter.unusedSimpArgs false
set_option linter.unusedVariables false

def dzA : Array Value := #[.int .i64 0, .slice none 0 0]
theorem iDirty2 : (Tryd.prog.info? 33).map (fun i => (i.zero, i.size)) = some (some (.agg dzA), 2) := by kernel_rfl
theorem iDirty3 : (Tryd.prog.info? 33).map (fun i => (i.zero, i.size, i.bytes)) = some (some (.agg dzA), 2, 32) := by kernel_rfl
theorem uDirty : Tryd.prog.underlying 33 = some (.struct (Tryd.prog.fieldsOf 33)) := by kernel_rfl
theorem sDirty : (Tryd.prog.info? 33).map (·.size) = some 2 := by kernel_rfl
theorem loadDt (W : World) (b off : Nat) (x : Dr) (hc : W.rangeAt b off x.cells) : (Instr.loadAt 33 (.pointer (some ⟨b, off, none⟩))).run Tryd.prog W = .ok (.agg #[.int .i64 x.b, x.r]) W :=
  run_loadAt_mid W b off 33 x.cells _ hc uDirty rfl (by rw [sDirty]; rfl)
theorem dt_one {x : Dr} {w : World} (h : RowAt w x.r x.d) : (#[Value.int .i64 x.b, x.r] : Array Value).all (·.oneCell') = true := by
  obtain ⟨a, c, e, _⟩ := h
  rw [e]
  simp [Value.oneCell']
theorem block_cells2 {W : World} {b : Nat} {x0 x1 : Value} {T : TypeId} (h : W.heap[b]? = some (.cells #[x0, x1] T (0, 0))) :
    W.cell? ⟨b, 0, none⟩ = some x0 ∧ W.cell? ⟨b, 1, none⟩ = some x1 := by
  simp [World.cell?, h]
def dbs (xs : List Dr) : List Db := xs.map Dr.db
theorem dbs_len (xs : List Dr) : (dbs xs).length = xs.length := by simp [dbs]
theorem dbs_get {xs : List Dr} {k : Nat} (h : k < xs.length) : (dbs xs).getD k default = xs[k].db := by
  unfold dbs
  rw [List.getD_eq_getElem?_getD, List.getElem?_map, List.getElem?_eq_getElem h]
  rfl
theorem least_succ {l : List Db} {k : Nat} : leastK l (k + 1) = (l.getD k default).b + 1 := by simp [leastK]
theorem okK_at {xs : List Dr} {size : Int} {k : Nat} (h : k < xs.length) : okK (dbs xs) size k = (btw xs[k].b (leastK (dbs xs) k) ((size + 63) / 64 - 1) && decide (xs[k].d.length ≤ 64)) := by
  unfold okK
  rw [dbs_get h]
  rfl
set_option maxHeartbeats 6400000 in
theorem pMayLie_any (w : World) (v : Value) (xs : List Dr) (size : Int) (hv : DsAt w v xs) (h0 : 0 ≤ size) (h1 : size ≤ 4096) :
    Calls Tryd.prog 26 #[v, .int .i64 size] w fun e w' => e = .returned (.bool (lieB (dbs xs) size)) ∧ Keeps [] w w' := by
  have hf := hv.few
  unfold maxLen at hf
  obtain ⟨a, c, rfl⟩ := hv.shape
  have HV := hid hv
  clear hv
  obtain ⟨cn, hcn⟩ : ∃ cn, cn = (size + 63) / 64 := ⟨_, rfl⟩
  have hq : (size + 64 - 1).tdiv 64 = cn := by rw [hcn, Int.tdiv_eq_ediv_of_nonneg (by omega)]; congr 1; omega
  have c0 : 0 ≤ cn := by omega
  have c1 : cn ≤ 64 := by omega
  have HCN := hid hcn
  clear hcn
  go_enter Tryd.func26, Tryd.ntmps26
  go_wp2_with fail
  clear hq
  go_loopw [6, 15] (fun lv iv wr => ∃ k : Nat, iv = .int .i64 k ∧ k ≤ xs.length ∧ lv = .int .i64 (leastK (dbs xs) k) ∧ 0 ≤ leastK (dbs xs) k ∧ leastK (dbs xs) k ≤ 64 ∧ Hid (∀ j, j < k → okK (dbs xs) size j = true) ∧ Hid (Keeps [] w wr)) (fun _ iv _ => xs.length - (intOf iv).toNat)
  case atStart => exact ⟨0, rfl, Nat.zero_le _, rfl, by simp [leastK], by simp [leastK], hid (fun _ h => absurd h (Nat.not_lt_zero _)), hid (Keeps.refl _ _)⟩
  case round =>
    obtain ⟨k, rfl, hk, rfl, hl0, hl1, HALL, HK⟩ := hrel
    by_cases hlt : k < xs.length
    · obtain ⟨g, off, rfl, hg, D⟩ := (HV.out.keep HK.out).at k hlt
      have HO := hid (okK_at (size := size) hlt)
      have HS := hid (show leastK (dbs xs) (k + 1) = xs[k].b + 1 by rw [least_succ, dbs_get hlt]; rfl)
      obtain ⟨x, hx⟩ : ∃ x, x = xs[k] := ⟨_, rfl⟩
      rw [← hx] at D HO HS
      clear hx
      obtain ⟨ls, hls⟩ : ∃ z, z = leastK (dbs xs) k := ⟨_, rfl⟩
      rw [← hls] at hl0 hl1 HO ⊢
      clear hls
      have HD := hid D
      obtain ⟨a', c', hr, _⟩ := id D.row
      have hfit := D.fit
      obtain ⟨bb, br, bd⟩ := x
      simp only at hr
      subst hr
      simp only at HO HS hfit
      have H1 := hid (dt_one D.row)
      obtain ⟨w1, hw1⟩ : ∃ z, z = wr.alloc (.cells #[.int .i64 bb, .slice a' bd.length c'] 33) := ⟨_, rfl⟩
      have HW1 := hid hw1
      have K1 := hid (show Keeps [] w w1 by rw [hw1]; exact HK.out.alloc _)
      obtain ⟨cb, cr⟩ := block_cells2 (show w1.heap[wr.heap.size]? = some (.cells #[.int .i64 bb, .slice a' bd.length c'] 33 (0, 0)) by rw [hw1]; exact heap_alloc_new wr _)
      clear D hw1
      cases h2 : btw bb ls (cn - 1) with
      | false =>
        have H2 := hid h2
        clear h2
        go_wp2_with (first | (refine wpList_is rfl _ _ (exec_load _ _ _ _ rfl rfl (loadDt _ g (off + k * 2) _ HD.out.rg)) ?_) | (refine wpList_is rfl _ _ (exec_alloc 33 dzA iDirty2 rfl) ?_) | (refine wpList_noval rfl _ (exec_storeNew 33 _ _ rfl wr dzA #[.int .i64 bb, .slice a' bd.length c'] rfl rfl rfl iDirty2 rfl H1.out) ?_; rw [← HW1.out]) | fail)
        refine (pwithin_as _ bb ls (cn - 1) _ H2.out).mono ?_
        rintro e _ ⟨rfl, rfl⟩
        go_wp2_with fail
        go_ret
        exact ⟨by rw [lieB_no (k := k) (by rw [dbs_len]; exact hlt) (by rw [HO.out, ← HCN.out, H2.out]; rfl)]; rfl, K1.out⟩
      | true =>
        obtain ⟨b0, b1⟩ := btw_is.1 h2
        have H2 := hid h2
        clear h2
        by_cases h3 : bd.length ≤ 64
        · have d3 : decide ((64 : Int) < (bd.length : Int)) = false := by simp; omega
          have D3 := hid h3
          clear h3
          go_wp2_with (first | (refine wpList_is rfl _ _ (exec_load _ _ _ _ rfl rfl (loadDt _ g (off + k * 2) _ HD.out.rg)) ?_) | (refine wpList_is rfl _ _ (exec_alloc 33 dzA iDirty2 rfl) ?_) | (refine wpList_noval rfl _ (exec_storeNew 33 _ _ rfl wr dzA #[.int .i64 bb, .slice a' bd.length c'] rfl rfl rfl iDirty2 rfl H1.out) ?_; rw [← HW1.out]) | fail)
          refine (pwithin_as _ bb ls (cn - 1) _ H2.out).mono ?_
          rintro e _ ⟨rfl, rfl⟩
          go_wp2_with fail
          go_roundw
          case rel =>
            refine ⟨k + 1, by go_num, by omega, by rw [HS.out], by rw [HS.out]; omega, by rw [HS.out]; omega, hid (fun j hj => ?_), K1⟩
            by_cases e : j = k
            · subst e
              rw [HO.out, ← HCN.out, H2.out]
              simpa using D3.out
            · exact HALL.out j (by omega)
          case measure => simp [intOf]; omega
        · have d3 : decide ((64 : Int) < (bd.length : Int)) = true := by simp; omega
          have D3 := hid h3
          clear h3
          go_wp2_with (first | (refine wpList_is rfl _ _ (exec_load _ _ _ _ rfl rfl (loadDt _ g (off + k * 2) _ HD.out.rg)) ?_) | (refine wpList_is rfl _ _ (exec_alloc 33 dzA iDirty2 rfl) ?_) | (refine wpList_noval rfl _ (exec_storeNew 33 _ _ rfl wr dzA #[.int .i64 bb, .slice a' bd.length c'] rfl rfl rfl iDirty2 rfl H1.out) ?_; rw [← HW1.out]) | fail)
          refine (pwithin_as _ bb ls (cn - 1) _ H2.out).mono ?_
          rintro e _ ⟨rfl, rfl⟩
          go_wp2_with fail
          go_ret
          exact ⟨by rw [lieB_no (k := k) (by rw [dbs_len]; exact hlt) (by rw [HO.out, ← HCN.out, H2.out]; simpa using D3.out)]; rfl, K1.out⟩
    · obtain rfl : k = xs.length := by omega
      go_wp2_with fail
      go_ret
      exact ⟨by rw [lieB_is.2 (fun j hj => HALL.out j (by rw [dbs_len] at hj; exact hj))]; rfl, HK.out⟩
end Go.Proofs.YtcfmonlgpccndaaDoor
