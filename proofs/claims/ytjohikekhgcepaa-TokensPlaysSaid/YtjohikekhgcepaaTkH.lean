/- tokens: put, Open. -/
import Derived.Test.YtjohikekhgcepaaTkG
import Derived.Test.YtjohikekhgcepaaKitB
namespace Go.Proofs.Ytjohikekhgcepaa
open Go.RowKit Go.Shelf
set_option maxRecDepth 100000
set_option linter.unusedSimpArgs false

theorem rks_cutlo (g off len cap i : Nat) (hi : i ≤ len) (hlc : len ≤ cap) (hm : cap ≤ maxLen) : ∃ a c, (∀ W, (Instr.sliceAt 67 (.slice (some ⟨g, off, none⟩) len cap) (some (.int .i64 (i : Int))) none none).run Try.prog W = .ok (.slice a (len - i) c) W) ∧
    (∀ (W : World) (M : List Nat) (rs : List Rk), len = rs.length → g < W.heap.size → g ∉ M → W.rangeAt g off (rkcells rs) → RksAt W M (.slice a (rs.length - i) c) (rs.drop i)) := by
  have hrun : ∀ W, (Instr.sliceAt 67 (.slice (some ⟨g, off, none⟩) len cap) (some (.int .i64 (i : Int))) none none).run Try.prog W = .ok (.slice (if cap = i then some ⟨g, off, none⟩ else some ⟨g, off + i * 4, none⟩) (len - i) (cap - i)) W := by
    intro W
    rw [run_sliceAt_slice W 67 _ _ _ _ rks_elem, run_slice_l W 67 _ len cap rks_elem .i64 i (by omega) (by omega), rks_el, size_rk]
    simp [Result.andThen, sliced, Addr.add_lit]
  refine ⟨_, _, hrun, ?_⟩
  rintro W M rs rfl hg hgM hr
  refine ⟨_, cap - i, by rw [List.length_drop], by rw [List.length_drop]; omega, by omega, ?_, ?_⟩
  · split <;> simp
  · intro ad had
    by_cases hc : cap = i
    · rw [if_pos hc] at had
      refine ⟨g, off, (Option.some.inj had).symm, hg, hgM, fun j u hu => ?_⟩
      have : rs.drop i = [] := List.drop_eq_nil_of_le (by omega)
      rw [this] at hu; simp [rkcells] at hu
    · rw [if_neg hc] at had
      refine ⟨g, off + i * 4, (Option.some.inj had).symm, hg, hgM, fun j u hu => ?_⟩
      rw [rkcells_drop, List.getElem?_drop] at hu
      have := hr _ _ hu
      rwa [← Nat.add_assoc] at this
theorem rks_nillo (W : World) : (Instr.sliceAt 67 (.slice none 0 0) (some (.int .i64 (0 : Int))) none none).run Try.prog W = .ok (.slice none 0 0) W := by
  have := run_slice_l W 67 none 0 0 rks_elem .i64 0 (by omega) (by omega)
  rw [run_sliceAt_slice W 67 _ _ _ _ rks_elem]
  rw [this, rks_el, size_rk]
  simp [Result.andThen, sliced]
/-- Rows cut to their first i. -/
theorem RksAt.first {w : World} {M : List Nat} {a : Option Addr} {c : Nat} {rs : List Rk} (h : RksAt w M (.slice a rs.length c) rs) {i : Nat} (hi : i ≤ rs.length) : RksAt w M (.slice a i c) (rs.take i) := by
  obtain ⟨a', cap, hv, h1, h2, h0, h4⟩ := h
  injection hv with e1 _ e3
  subst e1; subst e3
  refine ⟨a, c, by rw [List.length_take, Nat.min_eq_left hi], by rw [List.length_take]; omega, h2, h0, fun ad had => ?_⟩
  obtain ⟨g, off, rfl, hg, hM, hr⟩ := h4 ad had
  refine ⟨g, off, rfl, hg, hM, fun j u hu => hr j u ?_⟩
  rw [rkcells_take, List.getElem?_take] at hu
  split at hu
  · exact hu
  · cases hu
/-- Rows behind their first i. -/
theorem RksAt.rest {w : World} {M : List Nat} {a : Option Addr} {c : Nat} {rs : List Rk} (h : RksAt w M (.slice a rs.length c) rs) {i : Nat} (hi : i ≤ rs.length) :
    ∃ a2 c2, (∀ W, (Instr.sliceAt 67 (.slice a rs.length c) (some (.int .i64 (i : Int))) none none).run Try.prog W = .ok (.slice a2 (rs.length - i) c2) W) ∧ RksAt w M (.slice a2 (rs.length - i) c2) (rs.drop i) := by
  rcases h.two with ⟨hv, rfl⟩ | ⟨g, off, cap, hv, h1, h2, hg, hM, hr⟩
  · injection hv with e1 _ e3
    subst e1; subst e3
    obtain rfl : i = 0 := by simpa using hi
    exact ⟨none, 0, fun W => rks_nillo W, RksAt.nil _ _⟩
  · injection hv with e1 _ e3
    subst e1; subst e3
    obtain ⟨a2, c2, r1, r2⟩ := rks_cutlo g off rs.length c i hi h1 h2
    exact ⟨a2, c2, r1, r2 w M rs rfl hg hM hr⟩
theorem iRkRows : (Try.prog.info? 67).map (fun i => (i.zero, i.size, i.bytes)) = some (some (.slice none 0 0), 1, 24) := by kernel_rfl
theorem exec_threeRows {ρ : Operand → Value} {o : Oper} {w : World} (x y z : Operand) (a1 : Option Addr) (n1 c1 : Nat) (a2 : Option Addr) (n2 c2 : Nat) (a3 : Option Addr) (n3 c3 : Nat) (ho : o.op = .buildSlice 236 3 #[(0, x), (1, y), (2, z)]) (hx : ρ x = .slice a1 n1 c1) (hy : ρ y = .slice a2 n2 c2) (hz' : ρ z = .slice a3 n3 c3) :
    (execOp ρ o).run Try.prog w = .ok (.value (.slice (some ⟨w.heap.size, 0, none⟩) 3 3)) (w.alloc (.cells #[.slice a1 n1 c1, .slice a2 n2 c2, .slice a3 n3 c3] 67)) := by
  obtain ⟨ie, hie, hz, hs, _⟩ := info_parts iRkRows
  have h : (Instr.buildSlice 236 3 #[(0, .slice a1 n1 c1), (1, .slice a2 n2 c2), (2, .slice a3 n3 c3)]).run Try.prog w = .ok (.slice (some ⟨w.heap.size, 0, none⟩) 3 3) (w.alloc (.cells #[.slice a1 n1 c1, .slice a2 n2 c2, .slice a3 n3 c3] 67)) := by
    refine run_buildSlice w _ _ 3 _ _ ie _ Try.underlying236 hie hz (by rw [hs]; decide) (by rw [hs]; decide) ?_
    rw [hs]
    have e : (Array.range (3 * 1)) = #[0, 1, 2] := rfl
    have e2 : (Value.slice none 0 0).cells = #[.slice none 0 0] := rfl
    have e3 : (Value.slice a1 n1 c1).cells = #[.slice a1 n1 c1] := rfl
    have e4 : (Value.slice a2 n2 c2).cells = #[.slice a2 n2 c2] := rfl
    have e5 : (Value.slice a3 n3 c3).cells = #[.slice a3 n3 c3] := rfl
    simp only [Instr.fill, e, e2, e3, e4, e5]
    simp
  simp only [execOp, ho, List.map_toArray, List.map_cons, List.map_nil, hx, hy, hz', Sem.run_bind, h, Result.andThen_ok, Sem.run_pure]

/-- Where a row belongs. -/
def posK (r : Rk) (rs : List Rk) : Nat := (rs.findIdx? (aheadK r)).getD rs.length
def insK (r : Rk) (rs : List Rk) : List Rk := rs.take (posK r rs) ++ [r] ++ rs.drop (posK r rs)
theorem posK_le (r : Rk) (rs : List Rk) : posK r rs ≤ rs.length := by
  unfold posK
  cases hf : rs.findIdx? (aheadK r) with
  | none => exact Nat.le_refl _
  | some i =>
    rw [List.findIdx?_eq_some_iff_getElem] at hf
    obtain ⟨h, _⟩ := hf
    exact Nat.le_of_lt h
theorem insK_len (r : Rk) (rs : List Rk) : (insK r rs).length = rs.length + 1 := by
  have := posK_le r rs
  unfold insK
  simp only [List.length_append, List.length_take, List.length_drop, List.length_cons, List.length_nil]
  omega
theorem posK_idx (r : Rk) (rs : List Rk) : (idxK (aheadK r) rs = (posK r rs : Int)) ∨ (idxK (aheadK r) rs = -1 ∧ posK r rs = rs.length) := by
  unfold idxK posK
  cases hf : rs.findIdx? (aheadK r) with
  | none => exact Or.inr ⟨rfl, rfl⟩
  | some i => exact Or.inl rfl
def PutPostK (w : World) (M : List Nat) (q : Nat) (ms : List Rk) (e : Ending) (w' : World) : Prop := e = .returned (.tuple #[]) ∧ TokAt w' M q ms ∧ Keeps [q] w w'
set_option maxHeartbeats 12800000 in
theorem put_any {w : World} {M : List Nat} {q : Nat} {rs : List Rk} (h : TokAt w M q rs) (hM : ∀ b ∈ M, b < w.heap.size) (r : Rk) (hl : rs.length < 1000) :
    Calls Try.prog 72 #[.pointer (some ⟨q, 0, none⟩), rkV r] w (PutPostK w M q (insK r rs)) := by
  have ka : Keeps [] w (w.alloc (.cells r.cells.toArray 59)) := (Keeps.refl [] w).alloc _
  have HA := hid (h.later ka)
  have HM := hid hM
  have HMQ := hid h.mem
  have HLE := hid hl
  obtain ⟨a, cp, c0, c1, hv⟩ := HA.out.cells
  have C1 := hid c1
  have HV := hid hv
  have HQ := hid HA.out.lt
  have K1 := hid ka
  have RG := hid (rkrange_new w r.cells 59)
  have HS := hid (show (w.alloc (.cells r.cells.toArray 59)).heap.size = w.heap.size + 1 by simp)
  have PI := hid (posK_idx r rs)
  have PL := hid (posK_le r rs)
  have IL := hid (insK_len r rs)
  obtain ⟨ms, hms⟩ : ∃ z, z = insK r rs := ⟨_, rfl⟩
  have HMS := hid (show ms = rs.take (posK r rs) ++ [r] ++ rs.drop (posK r rs) from hms)
  rw [← hms] at IL ⊢
  obtain ⟨i, hi⟩ : ∃ z, z = posK r rs := ⟨_, rfl⟩
  rw [← hi] at PI PL HMS
  clear h hM ka hv c0 c1 hl hms hi
  go_enter Try.func72, Try.ntmps72
  go_wp2_with (first | (refine wpList_boxRk rfl _ rfl _ rfl ?_) | fail)
  generalize w.alloc (.cells r.cells.toArray 59) = w1 at HA C1 HV HQ K1 RG HS ⊢
  refine wp_region_any (by kernel_rfl) (wpAny_of_held (S := KpS [] w1.heap.size w1.drew) _ _ _ _ ?_)
  change wpAnyH _ _ _ _ _ _ _ _ w1.drew
  refine held_take (i := 0) (v := .pointer (some ⟨q, 0, none⟩)) rfl (by kernel_rfl) (by kernel_rfl) (by kernel_rfl) (fun _ _ _ h => h) rfl (fun W1 hW1 => rfl) (KpS.refl _ _ _) ?_
  simp only [Act.put, List.setIfInBounds_toArray, List.set_cons_zero, List.set_cons_succ]
  refine held_take (i := 1) (v := .pointer (some ⟨q, 0, none⟩)) rfl (by kernel_rfl) (by kernel_rfl) (by kernel_rfl) (fun _ _ _ h => h) rfl (fun W1 hW1 => by go_simp) (KpS.refl _ _ _) ?_
  simp only [Act.put, List.setIfInBounds_toArray, List.set_cons_zero, List.set_cons_succ]
  refine held_take (i := 2) (v := .pointer (some ⟨q, 1, none⟩)) rfl (by kernel_rfl) (by kernel_rfl) (by kernel_rfl) (fun _ _ _ h => h) rfl (fun W1 hW1 => by go_simp) (KpS.refl _ _ _) ?_
  simp only [Act.put, List.setIfInBounds_toArray, List.set_cons_zero, List.set_cons_succ]
  refine held_take (i := 3) (v := .slice a rs.length cp) rfl (by kernel_rfl) (by kernel_rfl) (by kernel_rfl) (fun _ _ _ h => h) rfl (fun W1 hW1 => exec_load _ _ _ _ rfl rfl (run_loadCell W1 _ _ _ (hW1.cell (by rw [World.cell?_drew]; exact C1.out) HQ.out (by simp)) (agg_no _ (by kernel_rfl)))) (KpS.refl _ _ _) ?_
  simp only [Act.put, List.setIfInBounds_toArray, List.set_cons_zero, List.set_cons_succ]
  refine held_take (i := 4) (v := rkV r) rfl (by kernel_rfl) (by kernel_rfl) (by kernel_rfl) (fun _ _ _ h => h) rfl (fun W1 hW1 => exec_load _ _ _ _ rfl rfl (loadRk_run cRk W1 w.heap.size 0 _ (fun t u hu => hW1.cell (by rw [World.cell?_drew]; exact RG.out t u hu) (by have := HS.out; omega) (by simp)))) (KpS.refl _ _ _) ?_
  simp only [Act.put, List.setIfInBounds_toArray, List.set_cons_zero, List.set_cons_succ]
  refine held_take (i := 5) (v := .func (.func 134) #[rkV r] #[]) rfl (by kernel_rfl) (by kernel_rfl) (by kernel_rfl) (fun _ _ _ h => h) rfl (fun W1 hW1 => by go_simp) (KpS.refl _ _ _) ?_
  simp only [Act.put, List.setIfInBounds_toArray, List.set_cons_zero, List.set_cons_succ]
  refine held_do (i := 6) (by kernel_rfl) rfl rfl (wp_enter (f := 79) (args := #[.slice a rs.length cp, .func (.func 134) #[rkV r] #[]]) (by go_simp) (idx_any (cb_ahead _ r) (HV.out.later (Keeps.refl [] w1).drew) (by have := HLE.out; omega)) ?_)
  rintro e w2 ⟨rfl, k2⟩
  have s2 : KpS [] w1.heap.size w1.drew w2 := (KpS.refl _ _ _).keeps k2 (Nat.le_refl _) (by simp)
  refine ⟨_, rfl, s2, ?_⟩
  simp only [Act.put, List.setIfInBounds_toArray, List.set_cons_zero, List.set_cons_succ]
  refine held_take (i := 7) (v := .int .i64 (idxK (aheadK r) rs)) rfl (by kernel_rfl) (by kernel_rfl) (by kernel_rfl) (fun _ _ _ h => h) rfl (fun W1 hW1 => by go_simp) (s2) ?_
  simp only [Act.put, List.setIfInBounds_toArray, List.set_cons_zero, List.set_cons_succ]
  refine wpAnyH_done (by kernel_rfl) ?_ _
  have k12 : Keeps [] w1 w2 := ((Keeps.refl [] w1).drew).trans k2
  have K2 := hid k12
  have C2 := hid (k12.cell' C1.out (by simp))
  have HV2 := hid (HV.out.later k12)
  have RG2 := hid (rkrange_keep RG.out k12 (by simp))
  have HQ2 := hid (Nat.lt_of_lt_of_le HQ.out k12.size)
  clear s2 k2 k12
  have CAP : Hid (rs.length ≤ cp) := hid (by
    obtain ⟨_, _, e, h1, _⟩ := HV.out
    injection e with _ _ e3
    omega)
  rcases PI.out with hx | ⟨hx, hx2⟩
  · rw [hx]
    clear hx
    have c2 := C2.out
    go_wp2_with fail
    refine wp_region_any (by kernel_rfl) (wpAny_of_late (late := [19]) (S := KpS [] w2.heap.size w2.drew) _ _ _ _ ?_)
    change wpAnyT _ _ _ _ _ _ _ _ _ w2.drew
    obtain ⟨a2, d2, SR, RD⟩ := HV2.out.rest PL.out
    have FS := HV2.out.first PL.out
    have HSR := hid SR
    have HFS := hid FS
    have HRD := hid RD
    clear SR RD FS
    have cP : ∀ W1, KpS [] w2.heap.size w2.drew W1 → W1.cell? ⟨q, 1, none⟩ = some (.slice a rs.length cp) := fun W1 h => h.cell (by rw [World.cell?_drew]; exact C2.out) HQ2.out (by simp)
    have cM : ∀ W1, KpS [] w2.heap.size w2.drew W1 → W1.rangeAt w.heap.size 0 r.cells := fun W1 h t u hu => h.cell (by rw [World.cell?_drew]; exact RG2.out t u hu) (by have := HS.out; have := K2.out.size; omega) (by simp)
    refine late_take (i := 0) (v := .pointer (some ⟨q, 0, none⟩)) rfl (by kernel_rfl) (by kernel_rfl) (by kernel_rfl) (by kernel_rfl) (by kernel_rfl) (fun _ _ _ h => h) rfl (fun W1 hW1 => rfl) (KpS.refl _ _ _) ?_
    simp only [Act.put, List.setIfInBounds_toArray, List.set_cons_zero, List.set_cons_succ]
    refine late_take (i := 1) (v := .pointer (some ⟨q, 0, none⟩)) rfl (by kernel_rfl) (by kernel_rfl) (by kernel_rfl) (by kernel_rfl) (by kernel_rfl) (fun _ _ _ h => h) rfl (fun W1 hW1 => rfl) (KpS.refl _ _ _) ?_
    simp only [Act.put, List.setIfInBounds_toArray, List.set_cons_zero, List.set_cons_succ]
    refine late_take (i := 2) (v := .pointer (some ⟨q, 0, none⟩)) rfl (by kernel_rfl) (by kernel_rfl) (by kernel_rfl) (by kernel_rfl) (by kernel_rfl) (fun _ _ _ h => h) rfl (fun W1 hW1 => by go_simp) (KpS.refl _ _ _) ?_
    simp only [Act.put, List.setIfInBounds_toArray, List.set_cons_zero, List.set_cons_succ]
    refine late_take (i := 3) (v := .pointer (some ⟨q, 1, none⟩)) rfl (by kernel_rfl) (by kernel_rfl) (by kernel_rfl) (by kernel_rfl) (by kernel_rfl) (fun _ _ _ h => h) rfl (fun W1 hW1 => by go_simp) (KpS.refl _ _ _) ?_
    simp only [Act.put, List.setIfInBounds_toArray, List.set_cons_zero, List.set_cons_succ]
    refine late_take (i := 4) (v := .slice a rs.length cp) rfl (by kernel_rfl) (by kernel_rfl) (by kernel_rfl) (by kernel_rfl) (by kernel_rfl) (fun _ _ _ h => h) rfl (fun W1 hW1 => exec_load _ _ _ _ rfl rfl (run_loadCell W1 _ _ _ (cP W1 hW1) (agg_no _ (by kernel_rfl)))) (KpS.refl _ _ _) ?_
    simp only [Act.put, List.setIfInBounds_toArray, List.set_cons_zero, List.set_cons_succ]
    refine late_take (i := 5) (v := .int .i64 (i : Int)) rfl (by kernel_rfl) (by kernel_rfl) (by kernel_rfl) (by kernel_rfl) (by kernel_rfl) (fun _ _ _ h => h) rfl (fun W1 hW1 => rfl) (KpS.refl _ _ _) ?_
    simp only [Act.put, List.setIfInBounds_toArray, List.set_cons_zero, List.set_cons_succ]
    refine late_take (i := 6) (v := .slice a i cp) rfl (by kernel_rfl) (by kernel_rfl) (by kernel_rfl) (by kernel_rfl) (by kernel_rfl) (fun _ _ _ h => h) rfl (fun W1 hW1 => exec_sliceR _ _ _ _ _ rfl (rks_hi a rs.length cp i (by have := CAP.out; have := PL.out; omega) W1)) (KpS.refl _ _ _) ?_
    simp only [Act.put, List.setIfInBounds_toArray, List.set_cons_zero, List.set_cons_succ]
    refine late_take (i := 7) (v := rkV r) rfl (by kernel_rfl) (by kernel_rfl) (by kernel_rfl) (by kernel_rfl) (by kernel_rfl) (fun _ _ _ h => h) rfl (fun W1 hW1 => exec_load _ _ _ _ rfl rfl (loadRk_run cRk W1 w.heap.size 0 _ (cM W1 hW1))) (KpS.refl _ _ _) ?_
    simp only [Act.put, List.setIfInBounds_toArray, List.set_cons_zero, List.set_cons_succ]
    refine late_take (i := 9) (v := .pointer (some ⟨q, 0, none⟩)) rfl (by kernel_rfl) (by kernel_rfl) (by kernel_rfl) (by kernel_rfl) (by kernel_rfl) (fun _ _ _ h => h) rfl (fun W1 hW1 => rfl) (KpS.refl _ _ _) ?_
    simp only [Act.put, List.setIfInBounds_toArray, List.set_cons_zero, List.set_cons_succ]
    refine late_take (i := 10) (v := .pointer (some ⟨q, 0, none⟩)) rfl (by kernel_rfl) (by kernel_rfl) (by kernel_rfl) (by kernel_rfl) (by kernel_rfl) (fun _ _ _ h => h) rfl (fun W1 hW1 => by go_simp) (KpS.refl _ _ _) ?_
    simp only [Act.put, List.setIfInBounds_toArray, List.set_cons_zero, List.set_cons_succ]
    refine late_take (i := 11) (v := .pointer (some ⟨q, 1, none⟩)) rfl (by kernel_rfl) (by kernel_rfl) (by kernel_rfl) (by kernel_rfl) (by kernel_rfl) (fun _ _ _ h => h) rfl (fun W1 hW1 => by go_simp) (KpS.refl _ _ _) ?_
    simp only [Act.put, List.setIfInBounds_toArray, List.set_cons_zero, List.set_cons_succ]
    refine late_take (i := 12) (v := .slice a rs.length cp) rfl (by kernel_rfl) (by kernel_rfl) (by kernel_rfl) (by kernel_rfl) (by kernel_rfl) (fun _ _ _ h => h) rfl (fun W1 hW1 => exec_load _ _ _ _ rfl rfl (run_loadCell W1 _ _ _ (cP W1 hW1) (agg_no _ (by kernel_rfl)))) (KpS.refl _ _ _) ?_
    simp only [Act.put, List.setIfInBounds_toArray, List.set_cons_zero, List.set_cons_succ]
    refine late_take (i := 13) (v := .int .i64 (i : Int)) rfl (by kernel_rfl) (by kernel_rfl) (by kernel_rfl) (by kernel_rfl) (by kernel_rfl) (fun _ _ _ h => h) rfl (fun W1 hW1 => rfl) (KpS.refl _ _ _) ?_
    simp only [Act.put, List.setIfInBounds_toArray, List.set_cons_zero, List.set_cons_succ]
    refine late_take (i := 14) (v := .slice a2 (rs.length - i) d2) rfl (by kernel_rfl) (by kernel_rfl) (by kernel_rfl) (by kernel_rfl) (by kernel_rfl) (fun _ _ _ h => h) rfl (fun W1 hW1 => exec_sliceR _ _ _ _ _ rfl (HSR.out W1)) (KpS.refl _ _ _) ?_
    simp only [Act.put, List.setIfInBounds_toArray, List.set_cons_zero, List.set_cons_succ]
    refine late_do (i := 8) (by kernel_rfl) rfl rfl (wp_value (exec_oneRk cRk _ r rfl rfl) ?_)
    have kB : Keeps [] w2 (w2.drew.alloc (.cells r.cells.toArray 59)) := (Keeps.refl [] w2).drew.alloc _
    have sB : KpS [] w2.heap.size w2.drew (w2.drew.alloc (.cells r.cells.toArray 59)) := (KpS.refl _ _ _).alloc (by simp) _
    have oB := rkrange_new w2.drew r.cells 59
    have zB : (w2.drew.alloc (.cells r.cells.toArray 59)).heap.size = w2.heap.size + 1 := by simp
    have eS : w2.drew.heap.size = w2.heap.size := rfl
    rw [eS] at oB
    refine ⟨Or.inr sB, ?_⟩
    simp only [Act.put, List.setIfInBounds_toArray, List.set_cons_zero, List.set_cons_succ]
    rw [eS]
    generalize w2.drew.alloc (.cells r.cells.toArray 59) = wB at kB sB oB zB ⊢
    refine late_do (i := 15) (by kernel_rfl) rfl rfl (wp_value (exec_threeRows _ _ _ a i cp (some ⟨w2.heap.size, 0, none⟩) 1 1 a2 (rs.length - i) d2 rfl rfl rfl rfl) ?_)
    have kC : Keeps [] w2 (wB.alloc (.cells #[.slice a i cp, .slice (some ⟨w2.heap.size, 0, none⟩) 1 1, .slice a2 (rs.length - i) d2] 67)) := kB.alloc _
    have sC : KpS [] w2.heap.size w2.drew (wB.alloc (.cells #[.slice a i cp, .slice (some ⟨w2.heap.size, 0, none⟩) 1 1, .slice a2 (rs.length - i) d2] 67)) := sB.alloc kB.size _
    have bC := heap_alloc_new wB (.cells #[.slice a i cp, .slice (some ⟨w2.heap.size, 0, none⟩) 1 1, .slice a2 (rs.length - i) d2] 67)
    have oC := rkrange_keep oB ((Keeps.refl [] wB).alloc (.cells #[.slice a i cp, .slice (some ⟨w2.heap.size, 0, none⟩) 1 1, .slice a2 (rs.length - i) d2] 67)) (by simp)
    refine ⟨Or.inr sC, ?_⟩
    simp only [Act.put, List.setIfInBounds_toArray, List.set_cons_zero, List.set_cons_succ]
    generalize wB.alloc (.cells #[.slice a i cp, .slice (some ⟨w2.heap.size, 0, none⟩) 1 1, .slice a2 (rs.length - i) d2] 67) = wC at kC sC bC oC ⊢
    have zC := kC.size
    have lt1 : (rs.take i).length = i := by rw [List.length_take]; have := PL.out; omega
    have lt3 : (rs.drop i).length = rs.length - i := List.length_drop
    have one : RksAt wC [] (.slice (some ⟨w2.heap.size, 0, none⟩) 1 1) [r] := ⟨_, 1, rfl, by simp, by unfold maxLen; omega, by simp, fun ad had => ⟨w2.heap.size, 0, (Option.some.inj had).symm, World.block_lt_of_cell? _ _ (oC 0 _ rfl), by simp, by simpa [rkcells] using oC⟩⟩
    have CC := concat_any wC M [] (fun b hb => by have := HM.out b hb; have := K1.out.size; have := K2.out.size; omega) wB.heap.size a (some ⟨w2.heap.size, 0, none⟩) a2 cp 1 d2 (rs.take i) [r] (rs.drop i) (by rw [lt1, lt3]; exact bC) (by rw [lt1]; exact (HFS.out.later kC).more (by simp)) one (by rw [lt3]; exact (HRD.out.later kC).more (by simp)) (by rw [lt1, lt3]; simp only [List.length_cons, List.length_nil]; have := HLE.out; have := PL.out; omega)
    rw [← HMS.out] at CC
    refine late_do (i := 16) (by kernel_rfl) rfl rfl (wp_enter (f := 135) (args := #[.slice (some ⟨wB.heap.size, 0, none⟩) 3 3]) (by go_simp) (CC) ?_)
    rintro e wD ⟨a5, c5, rfl, o5, k5⟩
    have sD : KpS [] w2.heap.size w2.drew wD := sC.keeps k5 zC (by simp)
    refine ⟨_, rfl, Or.inr sD, ?_⟩
    simp only [Act.put, List.setIfInBounds_toArray, List.set_cons_zero, List.set_cons_succ]
    refine late_take (i := 17) (v := .pointer (some ⟨q, 0, none⟩)) rfl (by kernel_rfl) (by kernel_rfl) (by kernel_rfl) (by kernel_rfl) (by kernel_rfl) (fun _ _ _ h => h) rfl (fun W1 hW1 => by go_simp) (sD) ?_
    simp only [Act.put, List.setIfInBounds_toArray, List.set_cons_zero, List.set_cons_succ]
    refine late_take (i := 18) (v := .pointer (some ⟨q, 1, none⟩)) rfl (by kernel_rfl) (by kernel_rfl) (by kernel_rfl) (by kernel_rfl) (by kernel_rfl) (fun _ _ _ h => h) rfl (fun W1 hW1 => by go_simp) (sD) ?_
    simp only [Act.put, List.setIfInBounds_toArray, List.set_cons_zero, List.set_cons_succ]
    have kD := kC.trans k5
    have hD := (HA.out.later K2.out).later kD
    have cd := cP _ sD
    have fd : wD.frozen? ⟨q, 1, none⟩ = false := by
      obtain ⟨⟨v, hb, _⟩, _, _⟩ := hD
      simp [World.frozen?, hb]
    refine late_do (i := 19) (by kernel_rfl) rfl rfl (wp_stored (w' := wD.setCell ⟨q, 1, none⟩ (.slice a5 ms.length c5)) (by go_simp) ⟨Or.inl rfl, ?_⟩)
    simp only [Act.put]
    refine wpAnyT_done (by kernel_rfl) ?_ _
    have TT := hid (hD.set o5.at HMQ.out (by have := IL.out; have := HLE.out; omega))
    have KK := hid ((((K1.out.trans K2.out).trans kD).mono (S' := [q]) (by simp)).trans (set_keep (b := q) (i := 1) (u := .slice a5 ms.length c5)))
    clear cP cM kB sB oB zB kC sC bC oC zC lt1 lt3 one CC o5 k5 sD kD hD cd fd
    go_wp2_with fail
    go_end0
    exact ⟨rfl, TT.out, KK.out⟩
  · rw [hx]
    clear hx
    have HX2 := hid hx2
    clear hx2
    obtain rfl : i = rs.length := HX2.out
    have c2 := C2.out
    go_wp2_with fail
    refine wp_region_any (by kernel_rfl) (wpAny_of_late (late := [19]) (S := KpS [] w2.heap.size w2.drew) _ _ _ _ ?_)
    change wpAnyT _ _ _ _ _ _ _ _ _ w2.drew
    obtain ⟨a2, d2, SR, RD⟩ := HV2.out.rest PL.out
    have FS := HV2.out.first PL.out
    have HSR := hid SR
    have HFS := hid FS
    have HRD := hid RD
    clear SR RD FS
    have cP : ∀ W1, KpS [] w2.heap.size w2.drew W1 → W1.cell? ⟨q, 1, none⟩ = some (.slice a rs.length cp) := fun W1 h => h.cell (by rw [World.cell?_drew]; exact C2.out) HQ2.out (by simp)
    have cM : ∀ W1, KpS [] w2.heap.size w2.drew W1 → W1.rangeAt w.heap.size 0 r.cells := fun W1 h t u hu => h.cell (by rw [World.cell?_drew]; exact RG2.out t u hu) (by have := HS.out; have := K2.out.size; omega) (by simp)
    refine late_take (i := 0) (v := .pointer (some ⟨q, 0, none⟩)) rfl (by kernel_rfl) (by kernel_rfl) (by kernel_rfl) (by kernel_rfl) (by kernel_rfl) (fun _ _ _ h => h) rfl (fun W1 hW1 => rfl) (KpS.refl _ _ _) ?_
    simp only [Act.put, List.setIfInBounds_toArray, List.set_cons_zero, List.set_cons_succ]
    refine late_take (i := 1) (v := .pointer (some ⟨q, 0, none⟩)) rfl (by kernel_rfl) (by kernel_rfl) (by kernel_rfl) (by kernel_rfl) (by kernel_rfl) (fun _ _ _ h => h) rfl (fun W1 hW1 => rfl) (KpS.refl _ _ _) ?_
    simp only [Act.put, List.setIfInBounds_toArray, List.set_cons_zero, List.set_cons_succ]
    refine late_take (i := 2) (v := .pointer (some ⟨q, 0, none⟩)) rfl (by kernel_rfl) (by kernel_rfl) (by kernel_rfl) (by kernel_rfl) (by kernel_rfl) (fun _ _ _ h => h) rfl (fun W1 hW1 => by go_simp) (KpS.refl _ _ _) ?_
    simp only [Act.put, List.setIfInBounds_toArray, List.set_cons_zero, List.set_cons_succ]
    refine late_take (i := 3) (v := .pointer (some ⟨q, 1, none⟩)) rfl (by kernel_rfl) (by kernel_rfl) (by kernel_rfl) (by kernel_rfl) (by kernel_rfl) (fun _ _ _ h => h) rfl (fun W1 hW1 => by go_simp) (KpS.refl _ _ _) ?_
    simp only [Act.put, List.setIfInBounds_toArray, List.set_cons_zero, List.set_cons_succ]
    refine late_take (i := 4) (v := .slice a rs.length cp) rfl (by kernel_rfl) (by kernel_rfl) (by kernel_rfl) (by kernel_rfl) (by kernel_rfl) (fun _ _ _ h => h) rfl (fun W1 hW1 => exec_load _ _ _ _ rfl rfl (run_loadCell W1 _ _ _ (cP W1 hW1) (agg_no _ (by kernel_rfl)))) (KpS.refl _ _ _) ?_
    simp only [Act.put, List.setIfInBounds_toArray, List.set_cons_zero, List.set_cons_succ]
    refine late_take (i := 5) (v := .int .i64 (rs.length : Int)) rfl (by kernel_rfl) (by kernel_rfl) (by kernel_rfl) (by kernel_rfl) (by kernel_rfl) (fun _ _ _ h => h) rfl (fun W1 hW1 => rfl) (KpS.refl _ _ _) ?_
    simp only [Act.put, List.setIfInBounds_toArray, List.set_cons_zero, List.set_cons_succ]
    refine late_take (i := 6) (v := .slice a rs.length cp) rfl (by kernel_rfl) (by kernel_rfl) (by kernel_rfl) (by kernel_rfl) (by kernel_rfl) (fun _ _ _ h => h) rfl (fun W1 hW1 => exec_sliceR _ _ _ _ _ rfl (rks_hi a rs.length cp rs.length (by have := CAP.out; have := PL.out; omega) W1)) (KpS.refl _ _ _) ?_
    simp only [Act.put, List.setIfInBounds_toArray, List.set_cons_zero, List.set_cons_succ]
    refine late_take (i := 7) (v := rkV r) rfl (by kernel_rfl) (by kernel_rfl) (by kernel_rfl) (by kernel_rfl) (by kernel_rfl) (fun _ _ _ h => h) rfl (fun W1 hW1 => exec_load _ _ _ _ rfl rfl (loadRk_run cRk W1 w.heap.size 0 _ (cM W1 hW1))) (KpS.refl _ _ _) ?_
    simp only [Act.put, List.setIfInBounds_toArray, List.set_cons_zero, List.set_cons_succ]
    refine late_take (i := 9) (v := .pointer (some ⟨q, 0, none⟩)) rfl (by kernel_rfl) (by kernel_rfl) (by kernel_rfl) (by kernel_rfl) (by kernel_rfl) (fun _ _ _ h => h) rfl (fun W1 hW1 => rfl) (KpS.refl _ _ _) ?_
    simp only [Act.put, List.setIfInBounds_toArray, List.set_cons_zero, List.set_cons_succ]
    refine late_take (i := 10) (v := .pointer (some ⟨q, 0, none⟩)) rfl (by kernel_rfl) (by kernel_rfl) (by kernel_rfl) (by kernel_rfl) (by kernel_rfl) (fun _ _ _ h => h) rfl (fun W1 hW1 => by go_simp) (KpS.refl _ _ _) ?_
    simp only [Act.put, List.setIfInBounds_toArray, List.set_cons_zero, List.set_cons_succ]
    refine late_take (i := 11) (v := .pointer (some ⟨q, 1, none⟩)) rfl (by kernel_rfl) (by kernel_rfl) (by kernel_rfl) (by kernel_rfl) (by kernel_rfl) (fun _ _ _ h => h) rfl (fun W1 hW1 => by go_simp) (KpS.refl _ _ _) ?_
    simp only [Act.put, List.setIfInBounds_toArray, List.set_cons_zero, List.set_cons_succ]
    refine late_take (i := 12) (v := .slice a rs.length cp) rfl (by kernel_rfl) (by kernel_rfl) (by kernel_rfl) (by kernel_rfl) (by kernel_rfl) (fun _ _ _ h => h) rfl (fun W1 hW1 => exec_load _ _ _ _ rfl rfl (run_loadCell W1 _ _ _ (cP W1 hW1) (agg_no _ (by kernel_rfl)))) (KpS.refl _ _ _) ?_
    simp only [Act.put, List.setIfInBounds_toArray, List.set_cons_zero, List.set_cons_succ]
    refine late_take (i := 13) (v := .int .i64 (rs.length : Int)) rfl (by kernel_rfl) (by kernel_rfl) (by kernel_rfl) (by kernel_rfl) (by kernel_rfl) (fun _ _ _ h => h) rfl (fun W1 hW1 => rfl) (KpS.refl _ _ _) ?_
    simp only [Act.put, List.setIfInBounds_toArray, List.set_cons_zero, List.set_cons_succ]
    refine late_take (i := 14) (v := .slice a2 (rs.length - rs.length) d2) rfl (by kernel_rfl) (by kernel_rfl) (by kernel_rfl) (by kernel_rfl) (by kernel_rfl) (fun _ _ _ h => h) rfl (fun W1 hW1 => exec_sliceR _ _ _ _ _ rfl (HSR.out W1)) (KpS.refl _ _ _) ?_
    simp only [Act.put, List.setIfInBounds_toArray, List.set_cons_zero, List.set_cons_succ]
    refine late_do (i := 8) (by kernel_rfl) rfl rfl (wp_value (exec_oneRk cRk _ r rfl rfl) ?_)
    have kB : Keeps [] w2 (w2.drew.alloc (.cells r.cells.toArray 59)) := (Keeps.refl [] w2).drew.alloc _
    have sB : KpS [] w2.heap.size w2.drew (w2.drew.alloc (.cells r.cells.toArray 59)) := (KpS.refl _ _ _).alloc (by simp) _
    have oB := rkrange_new w2.drew r.cells 59
    have zB : (w2.drew.alloc (.cells r.cells.toArray 59)).heap.size = w2.heap.size + 1 := by simp
    have eS : w2.drew.heap.size = w2.heap.size := rfl
    rw [eS] at oB
    refine ⟨Or.inr sB, ?_⟩
    simp only [Act.put, List.setIfInBounds_toArray, List.set_cons_zero, List.set_cons_succ]
    rw [eS]
    generalize w2.drew.alloc (.cells r.cells.toArray 59) = wB at kB sB oB zB ⊢
    refine late_do (i := 15) (by kernel_rfl) rfl rfl (wp_value (exec_threeRows _ _ _ a rs.length cp (some ⟨w2.heap.size, 0, none⟩) 1 1 a2 (rs.length - rs.length) d2 rfl rfl rfl rfl) ?_)
    have kC : Keeps [] w2 (wB.alloc (.cells #[.slice a rs.length cp, .slice (some ⟨w2.heap.size, 0, none⟩) 1 1, .slice a2 (rs.length - rs.length) d2] 67)) := kB.alloc _
    have sC : KpS [] w2.heap.size w2.drew (wB.alloc (.cells #[.slice a rs.length cp, .slice (some ⟨w2.heap.size, 0, none⟩) 1 1, .slice a2 (rs.length - rs.length) d2] 67)) := sB.alloc kB.size _
    have bC := heap_alloc_new wB (.cells #[.slice a rs.length cp, .slice (some ⟨w2.heap.size, 0, none⟩) 1 1, .slice a2 (rs.length - rs.length) d2] 67)
    have oC := rkrange_keep oB ((Keeps.refl [] wB).alloc (.cells #[.slice a rs.length cp, .slice (some ⟨w2.heap.size, 0, none⟩) 1 1, .slice a2 (rs.length - rs.length) d2] 67)) (by simp)
    refine ⟨Or.inr sC, ?_⟩
    simp only [Act.put, List.setIfInBounds_toArray, List.set_cons_zero, List.set_cons_succ]
    generalize wB.alloc (.cells #[.slice a rs.length cp, .slice (some ⟨w2.heap.size, 0, none⟩) 1 1, .slice a2 (rs.length - rs.length) d2] 67) = wC at kC sC bC oC ⊢
    have zC := kC.size
    have lt1 : (rs.take rs.length).length = rs.length := by rw [List.length_take]; have := PL.out; omega
    have lt3 : (rs.drop rs.length).length = rs.length - rs.length := List.length_drop
    have one : RksAt wC [] (.slice (some ⟨w2.heap.size, 0, none⟩) 1 1) [r] := ⟨_, 1, rfl, by simp, by unfold maxLen; omega, by simp, fun ad had => ⟨w2.heap.size, 0, (Option.some.inj had).symm, World.block_lt_of_cell? _ _ (oC 0 _ rfl), by simp, by simpa [rkcells] using oC⟩⟩
    have CC := concat_any wC M [] (fun b hb => by have := HM.out b hb; have := K1.out.size; have := K2.out.size; omega) wB.heap.size a (some ⟨w2.heap.size, 0, none⟩) a2 cp 1 d2 (rs.take rs.length) [r] (rs.drop rs.length) (by rw [lt1, lt3]; exact bC) (by rw [lt1]; exact (HFS.out.later kC).more (by simp)) one (by rw [lt3]; exact (HRD.out.later kC).more (by simp)) (by rw [lt1, lt3]; simp only [List.length_cons, List.length_nil]; have := HLE.out; have := PL.out; omega)
    rw [← HMS.out] at CC
    refine late_do (i := 16) (by kernel_rfl) rfl rfl (wp_enter (f := 135) (args := #[.slice (some ⟨wB.heap.size, 0, none⟩) 3 3]) (by go_simp) (CC) ?_)
    rintro e wD ⟨a5, c5, rfl, o5, k5⟩
    have sD : KpS [] w2.heap.size w2.drew wD := sC.keeps k5 zC (by simp)
    refine ⟨_, rfl, Or.inr sD, ?_⟩
    simp only [Act.put, List.setIfInBounds_toArray, List.set_cons_zero, List.set_cons_succ]
    refine late_take (i := 17) (v := .pointer (some ⟨q, 0, none⟩)) rfl (by kernel_rfl) (by kernel_rfl) (by kernel_rfl) (by kernel_rfl) (by kernel_rfl) (fun _ _ _ h => h) rfl (fun W1 hW1 => by go_simp) (sD) ?_
    simp only [Act.put, List.setIfInBounds_toArray, List.set_cons_zero, List.set_cons_succ]
    refine late_take (i := 18) (v := .pointer (some ⟨q, 1, none⟩)) rfl (by kernel_rfl) (by kernel_rfl) (by kernel_rfl) (by kernel_rfl) (by kernel_rfl) (fun _ _ _ h => h) rfl (fun W1 hW1 => by go_simp) (sD) ?_
    simp only [Act.put, List.setIfInBounds_toArray, List.set_cons_zero, List.set_cons_succ]
    have kD := kC.trans k5
    have hD := (HA.out.later K2.out).later kD
    have cd := cP _ sD
    have fd : wD.frozen? ⟨q, 1, none⟩ = false := by
      obtain ⟨⟨v, hb, _⟩, _, _⟩ := hD
      simp [World.frozen?, hb]
    refine late_do (i := 19) (by kernel_rfl) rfl rfl (wp_stored (w' := wD.setCell ⟨q, 1, none⟩ (.slice a5 ms.length c5)) (by go_simp) ⟨Or.inl rfl, ?_⟩)
    simp only [Act.put]
    refine wpAnyT_done (by kernel_rfl) ?_ _
    have TT := hid (hD.set o5.at HMQ.out (by have := IL.out; have := HLE.out; omega))
    have KK := hid ((((K1.out.trans K2.out).trans kD).mono (S' := [q]) (by simp)).trans (set_keep (b := q) (i := 1) (u := .slice a5 ms.length c5)))
    clear cP cM kB sB oB zB kC sC bC oC zC lt1 lt3 one CC o5 k5 sD kD hD cd fd
    go_wp2_with fail
    go_end0
    exact ⟨rfl, TT.out, KK.out⟩
end Go.Proofs.Ytjohikekhgcepaa
