/- tokens: the tokens in memory; isMade, New, Of, Busy, Rows, Clone. -/
import Derived.Test.YtjohikekhgcepaaTkD
namespace Go.Proofs.Ytjohikekhgcepaa
open Go.RowKit Go.Shelf
set_option maxRecDepth 100000
set_option linter.unusedSimpArgs false

theorem blk_cells2 {W : World} {b : Nat} {x0 x1 : Value} {T : TypeId} (h : W.heap[b]? = some (.cells #[x0, x1] T (0, 0))) :
    W.cell? ⟨b, 0, none⟩ = some x0 ∧ W.cell? ⟨b, 1, none⟩ = some x1 := by
  simp [World.cell?, h]
/-- Tokens of the package's, their rows in none of the blocks of M. -/
structure TokAt (w : World) (M : List Nat) (q : Nat) (rs : List Rk) : Prop where
  ex : ∃ v, w.heap[q]? = some (.cells #[.bool true, v] 135 (0, 0)) ∧ RksAt w M v rs
  mem : q ∈ M
  few : rs.length ≤ 1000
theorem TokAt.lt {w : World} {M : List Nat} {q : Nat} {rs : List Rk} (h : TokAt w M q rs) : q < w.heap.size := by obtain ⟨⟨v, hb, _⟩, _, _⟩ := h; exact lt_of_block hb
theorem TokAt.keep {w w' : World} {M S : List Nat} {q : Nat} {rs : List Rk} (h : TokAt w M q rs) (k : Keeps S w w') (hq : q ∉ S) (hS : ∀ b ∈ S, b ∈ M) : TokAt w' M q rs := by
  have hl := h.lt
  obtain ⟨⟨v, hb, hv⟩, h2, h3⟩ := h
  exact ⟨⟨v, (k.block q hl hq).trans hb, hv.keep k hS⟩, h2, h3⟩
theorem TokAt.later {w w' : World} {M : List Nat} {q : Nat} {rs : List Rk} (h : TokAt w M q rs) (k : Keeps [] w w') : TokAt w' M q rs := h.keep k (by simp) (by simp)
theorem TokAt.more {w : World} {M N : List Nat} {q : Nat} {rs : List Rk} (h : TokAt w M q rs) (hN : ∀ b ∈ N, b ∈ M ∨ w.heap.size ≤ b) (hq : q ∈ N) : TokAt w N q rs := by
  obtain ⟨⟨v, hb, hv⟩, h2, h3⟩ := h
  exact ⟨⟨v, hb, hv.more hN⟩, hq, h3⟩
theorem TokAt.cells {w : World} {M : List Nat} {q : Nat} {rs : List Rk} (h : TokAt w M q rs) : ∃ a c, w.cell? ⟨q, 0, none⟩ = some (.bool true) ∧ w.cell? ⟨q, 1, none⟩ = some (.slice a rs.length c) ∧ RksAt w M (.slice a rs.length c) rs := by
  obtain ⟨⟨v, hb, hv⟩, _, _⟩ := h
  obtain ⟨a, c, rfl⟩ := hv.shape
  obtain ⟨c0, c1⟩ := blk_cells2 hb
  exact ⟨a, c, c0, c1, hv⟩

section
variable {w : World} {M : List Nat} {q : Nat} {rs : List Rk}
theorem tkMade_any (h : TokAt w M q rs) : Calls Try.prog 67 #[.pointer (some ⟨q, 0, none⟩)] w fun e w' => e = .returned (.bool true) ∧ w = w' := by
  obtain ⟨a, c, c0, c1, hv⟩ := h.cells
  clear c1 hv h
  go_enter Try.func67, Try.ntmps67
  go_wp2_with fail
  go_ret
  exact ⟨rfl, rfl⟩
theorem tkNew_any (w : World) : Calls Try.prog 18 #[] w fun e w' => e = .returned (.pointer (some ⟨w.heap.size, 0, none⟩)) ∧ TokAt w' [w.heap.size] w.heap.size [] ∧ Keeps [] w w' := by
  go_enter Try.func18, Try.ntmps18
  go_wp2_with fail
  go_ret
  exact ⟨rfl, ⟨⟨_, heap_alloc_new w _, RksAt.nil _ _⟩, by simp, by simp⟩, (Keeps.refl [] w).alloc _⟩

def ofR (rs : List Rk) (c h : Int) : Rk := (rs.find? (atK c h)).getD rZ
theorem find_hit {p : Rk → Bool} {rs : List Rk} {k : Nat} (hk : k < rs.length) (h : p rs[k] = true) (hno : ∀ j (hj : j < rs.length), j < k → p rs[j] = false) : rs.find? p = some rs[k] :=
  List.find?_eq_some_iff_getElem.2 ⟨h, k, hk, rfl, fun j hj => by simpa using hno j (by omega) hj⟩
theorem cb_place (w : World) (c h : Int) : Cb w 75 #[rkV ⟨c, h, 0, false⟩] #[] (atK c h) :=
  ⟨enters_of Try.func75 (by kernel_rfl) rfl, fun W _ x => isPl_any W c h x⟩
theorem cb_clash (w : World) (r : Rk) : Cb w 71 #[rkV r] #[] (clashK r) :=
  ⟨enters_of Try.func71 (by kernel_rfl) rfl, fun W _ x => clash_any W r x⟩
theorem cb_ahead (w : World) (r : Rk) : Cb w 134 #[rkV r] #[] (aheadK r) :=
  ⟨enters_of Try.func134 (by kernel_rfl) rfl, fun W _ x => ahead_any W r x⟩
theorem cb_busy (w : World) (b : Nat) (n : Int) (h : w.cell? ⟨b, 0, none⟩ = some (.int .i64 n)) : Cb w 81 #[] #[.pointer (some ⟨b, 0, none⟩)] (freeIno n) :=
  ⟨enters_of Try.func81 (by kernel_rfl) rfl, fun W k x => busyF_any W b n x (k.cell' h (by simp))⟩
theorem cb_drop (w : World) (b : Nat) (n : Int) (h : w.cell? ⟨b, 0, none⟩ = some (.int .i64 n)) : Cb w 76 #[] #[.pointer (some ⟨b, 0, none⟩)] (sameCl n) :=
  ⟨enters_of Try.func76 (by kernel_rfl) rfl, fun W k x => dropF_any W b n x (k.cell' h (by simp))⟩
theorem two_retK {fn : Func} {p s : Tmp} (hr : fn.results = #[.cell p 59, .tmp s]) {tmps : Array Value} {w : World} {b : Nat} {x : Rk} {z : Value} (hp : tmps.getD p undef = .pointer (some ⟨b, 0, none⟩)) (hs : tmps.getD s undef = z) (hx : w.rangeAt b 0 x.cells) : (results fn tmps).run Try.prog w = .ok (.tuple #[rkV x, z]) w := by
  have hp' : tmps[p]?.getD undef = .pointer (some ⟨b, 0, none⟩) := by simpa using hp
  have hs' : tmps[s]?.getD undef = z := by simpa using hs
  have hv : (loadVar 59 ⟨b, 0, none⟩).run Try.prog w = .ok (rkV x) w := run_loadVar_mid w b 0 59 x.cells _ hx cRk.str rfl (by rw [cRk.size]; rfl)
  simp [results, hr, hp', hs', asAddr, hv, Result.andThen]
theorem build_rz (w : World) : (Instr.build 59 #[]).run Try.prog w = .ok (rkV rZ) w := by kernel_rfl
theorem exec_rz {ρ : Operand → Value} {o : Oper} {w : World} (ho : o.op = .build 59 #[]) : (execOp ρ o).run Try.prog w = .ok (.value (rkV rZ)) w := by
  simp only [execOp, ho, List.map_toArray, List.map_nil, Sem.run_bind, build_rz, Result.andThen_ok, Sem.run_pure]
def OfPost (w : World) (rs : List Rk) (c h : Int) (e : Ending) (w' : World) : Prop := e = .returned (.tuple #[rkV (ofR rs c h), .bool (rs.any (atK c h))]) ∧ Keeps [] w w'
set_option maxHeartbeats 6400000 in
theorem of_any (h : TokAt w M q rs) (c hh : Int) : Calls Try.prog 26 #[.pointer (some ⟨q, 0, none⟩), .int .i64 c, .int .i64 hh] w (OfPost w rs c hh) := by
  have ka : Keeps [] w (w.alloc (.cells rZ.cells.toArray 59)) := (Keeps.refl [] w).alloc _
  have HA := hid (h.later ka)
  have HF := hid h.few
  obtain ⟨a, cp, c0, c1, hv⟩ := HA.out.cells
  have C1 := hid c1
  have HV := hid hv
  have HQ := hid HA.out.lt
  have K1 := hid ka
  have B1 := hid (heap_alloc_new w (.cells rZ.cells.toArray 59))
  have HS := hid (show (w.alloc (.cells rZ.cells.toArray 59)).heap.size = w.heap.size + 1 by simp)
  have IC := hid (idxK_cases (atK c hh) rs)
  have AI := hid (any_idx (atK c hh) rs)
  clear h ka hv c0 c1
  go_enter Try.func26, Try.ntmps26
  go_wp2_with (first | (refine wpList_allocRk cRk rfl rfl ?_) | (go_at_call 67; refine (tkMade_any HA.out).mono ?_; rintro e _ ⟨rfl, rfl⟩) | fail)
  generalize w.alloc (.cells rZ.cells.toArray 59) = w1 at HA C1 HV HQ K1 B1 HS ⊢
  refine wp_region_any (by kernel_rfl) (wpAny_of_held (S := KpS [] w1.heap.size w1.drew) _ _ _ _ ?_)
  change wpAnyH _ _ _ _ _ _ _ _ w1.drew
  refine held_take (i := 0) (v := .pointer (some ⟨q, 0, none⟩)) rfl (by kernel_rfl) (by kernel_rfl) (by kernel_rfl) (fun _ _ _ h => h) rfl (fun W1 hW1 => rfl) (KpS.refl _ _ _) ?_
  simp only [Act.put, List.setIfInBounds_toArray, List.set_cons_zero, List.set_cons_succ]
  refine held_take (i := 1) (v := .pointer (some ⟨q, 0, none⟩)) rfl (by kernel_rfl) (by kernel_rfl) (by kernel_rfl) (fun _ _ _ h => h) rfl (fun W1 hW1 => by go_simp) (KpS.refl _ _ _) ?_
  simp only [Act.put, List.setIfInBounds_toArray, List.set_cons_zero, List.set_cons_succ]
  refine held_take (i := 2) (v := .pointer (some ⟨q, 1, none⟩)) rfl (by kernel_rfl) (by kernel_rfl) (by kernel_rfl) (fun _ _ _ h => h) rfl (fun W1 hW1 => by go_simp) (KpS.refl _ _ _) ?_
  simp only [Act.put, List.setIfInBounds_toArray, List.set_cons_zero, List.set_cons_succ]
  refine held_take (i := 3) (v := .slice a rs.length cp) rfl (by kernel_rfl) (by kernel_rfl) (by kernel_rfl) (fun _ _ _ h => h) rfl (fun W1 hW1 => exec_load _ _ _ _ rfl rfl (run_loadCell W1 _ _ _ (hW1.cell (by rw [World.cell?_drew]; exact C1.out) HQ.out (by simp)) (agg_no _ (by kernel_rfl)))) (KpS.refl _ _ _) ?_
  simp only [Act.put, List.setIfInBounds_toArray, List.set_cons_zero, List.set_cons_succ]
  refine held_take (i := 4) (v := .int .i64 c) rfl (by kernel_rfl) (by kernel_rfl) (by kernel_rfl) (fun _ _ _ h => h) rfl (fun W1 hW1 => rfl) (KpS.refl _ _ _) ?_
  simp only [Act.put, List.setIfInBounds_toArray, List.set_cons_zero, List.set_cons_succ]
  refine held_take (i := 5) (v := .int .i64 hh) rfl (by kernel_rfl) (by kernel_rfl) (by kernel_rfl) (fun _ _ _ h => h) rfl (fun W1 hW1 => rfl) (KpS.refl _ _ _) ?_
  simp only [Act.put, List.setIfInBounds_toArray, List.set_cons_zero, List.set_cons_succ]
  refine held_do (i := 6) (by kernel_rfl) rfl rfl (wp_enter (f := 74) (args := #[.int .i64 c, .int .i64 hh]) (by go_simp) (place_any _ _ _) ?_)
  rintro e w2 ⟨rfl, k2⟩
  have s2 : KpS [] w1.heap.size w1.drew w2 := (KpS.refl _ _ _).keeps k2 (Nat.le_refl _) (by simp)
  have k12 : Keeps [] w1 w2 := ((Keeps.refl [] w1).drew).trans k2
  refine ⟨_, rfl, s2, ?_⟩
  simp only [Act.put, List.setIfInBounds_toArray, List.set_cons_zero, List.set_cons_succ]
  refine held_take (i := 7) (v := .func (.func 75) #[rkV ⟨c, hh, 0, false⟩] #[]) rfl (by kernel_rfl) (by kernel_rfl) (by kernel_rfl) (fun _ _ _ h => h) rfl (fun W1 hW1 => by go_simp) (s2) ?_
  simp only [Act.put, List.setIfInBounds_toArray, List.set_cons_zero, List.set_cons_succ]
  refine held_do (i := 8) (by kernel_rfl) rfl rfl (wp_enter (f := 79) (args := #[.slice a rs.length cp, .func (.func 75) #[rkV ⟨c, hh, 0, false⟩] #[]]) (by go_simp) (idx_any (cb_place _ c hh) (HV.out.later k12) (by have := HF.out; omega)) ?_)
  rintro e w3 ⟨rfl, k3⟩
  have s3 : KpS [] w1.heap.size w1.drew w3 := s2.keeps k3 k12.size (by simp)
  refine ⟨_, rfl, s3, ?_⟩
  simp only [Act.put, List.setIfInBounds_toArray, List.set_cons_zero, List.set_cons_succ]
  refine held_take (i := 9) (v := .int .i64 (idxK (atK c hh) rs)) rfl (by kernel_rfl) (by kernel_rfl) (by kernel_rfl) (fun _ _ _ h => h) rfl (fun W1 hW1 => by go_simp) (s3) ?_
  simp only [Act.put, List.setIfInBounds_toArray, List.set_cons_zero, List.set_cons_succ]
  refine wpAnyH_done (by kernel_rfl) ?_ _
  have k13 := k12.trans k3
  have K3 := hid (K1.out.trans k13)
  have HV3 := hid (HV.out.later k13)
  have B3 := hid ((k13.block w.heap.size (by have := HS.out; omega) (by simp)).trans B1.out)
  obtain ⟨a3, cp3, _, d3, _⟩ := (HA.out.later k13).cells
  have hcell : w3.cell? ⟨q, 1, none⟩ = some (.slice a rs.length cp) := k13.cell' C1.out (by simp)
  rw [hcell] at d3
  injection d3 with d3
  injection d3 with d3 _ d4
  subst d3; subst d4
  clear s2 k12 k2 s3 k3 k13
  rcases IC.out with ⟨hi, hno⟩ | ⟨k, hk, hi, htk, hno⟩
  · have EI := hid hi
    rw [hi]
    have E1 : Hid (ofR rs c hh = rZ ∧ rs.any (atK c hh) = false) := hid (by
      have f : rs.find? (atK c hh) = none := List.find?_eq_none.2 (fun x hx => by simpa using hno x hx)
      refine ⟨by unfold ofR; rw [f]; rfl, ?_⟩
      have := AI.out
      rw [hi] at this
      exact this.symm)
    clear hi hno hcell
    go_wp2_with (first | (refine wpList_is rfl _ _ (exec_rz rfl) ?_) | (refine wpList_storeRkAt rfl _ _ rfl w.heap.size 0 rfl rZ.cells.toArray B3.out (by decide) rZ rfl ?_; intro w4 s1 s2) | fail)
    refine bodyPost_ret (two_retK (x := rZ) rfl rfl rfl ?_) rfl ?_
    · intro j u hu
      rw [Nat.zero_add, cell_of_row _ _ _ _ _ _ s1.out]
      simpa [Rk.cells, rZ] using hu
    · exact ⟨by rw [E1.out.1, E1.out.2]; rfl, K3.out.trans' s2.out (fun b hb hm => by simp at hm; omega)⟩
  · rw [hi]
    obtain ⟨g, off, rfl, _, hcap, hg, hM, hr⟩ := HV3.out.open (by omega)
    have R0 := range_rk hr k hk
    obtain ⟨y, hy⟩ : ∃ y, y = rs[k] := ⟨_, rfl⟩
    have E1 : Hid (ofR rs c hh = y ∧ rs.any (atK c hh) = true) := hid (by
      have f : rs.find? (atK c hh) = some rs[k] := find_hit hk htk hno
      refine ⟨by unfold ofR; rw [f, hy]; rfl, ?_⟩
      have := AI.out
      rw [hi] at this
      rw [← this]; simp)
    rw [← hy] at R0
    have R := hid R0
    clear hi hno htk R0 hr hy hg hM
    go_wp2_with (first | (refine wpList_loadRk cRk rfl _ rfl g (off + k * 4) (by simp [Act.eval]) y R.out ?_) | (refine wpList_storeRkAt rfl _ _ rfl w.heap.size 0 rfl rZ.cells.toArray B3.out (by decide) y rfl ?_; intro w4 s1 s2) | fail)
    refine bodyPost_ret (two_retK (x := y) rfl rfl rfl ?_) rfl ?_
    · intro j u hu
      rw [Nat.zero_add, cell_of_row _ _ _ _ _ _ s1.out]
      simpa [Rk.cells, rZ] using hu
    · exact ⟨by rw [E1.out.1, E1.out.2]; rfl, K3.out.trans' s2.out (fun b hb hm => by simp at hm; omega)⟩
end
end Go.Proofs.Ytjohikekhgcepaa
