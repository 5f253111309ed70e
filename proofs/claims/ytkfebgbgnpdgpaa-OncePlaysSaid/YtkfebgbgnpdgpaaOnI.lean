/- once: the walks of Rows, of the laws' model and Rows, of the reference's SameRows, of small. -/
import Derived.Test.YtkfebgbgnpdgpaaOnH
import Derived.Deep.QuietTactic
import Derived.BigQuiet
namespace Go.Proofs.Ytkfebgbgnpdgpaa
open Go.RowKit Go.Shelf
set_option maxRecDepth 100000
set_option linter.unusedSimpArgs false

def entryT (T : Tab) (k : Nat) : Option (Int × Int × Int × List Int) := (T k).map fun e => ((k : Int), e.1, e.2.1, e.2.2)
def refLk (T : Tab) (n : Nat) : List (Int × Int × Int × List Int) := (List.range n).filterMap (entryT T)
def refL (T : Tab) : List (Int × Int × Int × List Int) := refLk T 4
theorem refLk_succ (T : Tab) (n : Nat) : refLk T (n + 1) = refLk T n ++ (entryT T n).toList := by
  unfold refLk
  rw [List.range_succ, List.filterMap_append]
  cases h : entryT T n <;> simp [h]
theorem refLk_length (T : Tab) (n : Nat) : (refLk T n).length ≤ n := by
  have := List.length_filterMap_le (entryT T) (List.range n)
  simpa [refLk] using this

theorem RT.size {E T : TypeId} (rt : RT E T) : (Try.prog.info? E).map (fun i => (i.zero, i.size)) = some (some (.agg #[.int .i64 0, .int .i64 0, .int .i64 0, .slice none 0 0]), 4) := by
  obtain ⟨i0, hi, hz0, hz1, hz2⟩ := info_parts rt.inf
  simp [hi, hz0, hz1]

/-- A row of one in new memory. -/
theorem exec_oneRw {E T : TypeId} (rt : RT E T) {ρ : Operand → Value} {o : Oper} {w : World} (x : Operand) (c l s : Int) (a : Option Addr) (n cp : Nat) (ho : o.op = .buildSlice T 1 #[(0, x)]) (hx : ρ x = .agg #[.int .i64 c, .int .i64 l, .int .i64 s, .slice a n cp]) :
    (execOp ρ o).run Try.prog w = .ok (.value (.slice (some ⟨w.heap.size, 0, none⟩) 1 1)) (w.alloc (.cells #[.int .i64 c, .int .i64 l, .int .i64 s, .slice a n cp] E)) := by
  obtain ⟨ie, hie, hz, hs, _⟩ := info_parts rt.inf
  have h : (Instr.buildSlice T 1 #[(0, .agg #[.int .i64 c, .int .i64 l, .int .i64 s, .slice a n cp])]).run Try.prog w = .ok (.slice (some ⟨w.heap.size, 0, none⟩) 1 1) (w.alloc (.cells #[.int .i64 c, .int .i64 l, .int .i64 s, .slice a n cp] E)) := by
    refine run_buildSlice w _ _ 1 _ _ ie _ rt.und hie hz (by rw [hs]; decide) (by rw [hs]; decide) ?_
    rw [hs]
    have e : (Array.range (1 * 4)) = #[0, 1, 2, 3] := rfl
    have e2 : (Value.agg #[.int .i64 0, .int .i64 0, .int .i64 0, .slice none 0 0]).cells = #[.int .i64 0, .int .i64 0, .int .i64 0, .slice none 0 0] := rfl
    have e3 : (Value.agg #[.int .i64 c, .int .i64 l, .int .i64 s, .slice a n cp]).cells = #[.int .i64 c, .int .i64 l, .int .i64 s, .slice a n cp] := rfl
    simp only [Instr.fill, e, e2, e3]
    simp
  simp only [execOp, ho, List.map_toArray, List.map_cons, List.map_nil, hx, Sem.run_bind, h, Result.andThen_ok, Sem.run_pure]

/-- append of one row that was just laid. -/
theorem append_row {E T : TypeId} (rt : RT E T) {w : World} {B : Nat} {M : List Nat} {v : Value} {rs : List Rw} (h : OwnW E w B M v rs) (r : Rw) (hr : RwOk w M r) (hsep : Off v.ownBlock.toList r.row r.bs) (hl : rs.length ≤ 10000) (hB : B ≤ w.heap.size) (ty : TypeId) {a : Option Addr} {n c : Nat} (hrow : r.row = .slice a n c) :
    ∃ a' c' w', (Builtin.append_ #[T, T] ty #[v, .slice (some ⟨w.heap.size, 0, none⟩) 1 1]).run Try.prog (w.alloc (.cells #[.int .i64 r.c, .int .i64 r.l, .int .i64 r.s, .slice a n c] E)) = .ok (.slice a' (rs.length + 1) c') w' ∧ OwnW E w' B M (.slice a' (rs.length + 1) c') (rs ++ [r]) ∧ Keeps v.ownBlock.toList w w' := by
  have ka := (Keeps.refl [] w).alloc (.cells #[.int .i64 r.c, .int .i64 r.l, .int .i64 r.s, .slice a n c] E)
  have hb := heap_alloc_new w (.cells #[.int .i64 r.c, .int .i64 r.l, .int .i64 r.s, .slice a n c] E)
  have hs : RwsAt (w.alloc (.cells #[.int .i64 r.c, .int .i64 r.l, .int .i64 r.s, .slice a n c] E)) M (.slice (some ⟨w.heap.size, 0, none⟩) 1 1) [r] := by
    refine ⟨_, 1, rfl, by simp, by decide, by simp, fun x hx => by simp at hx; subst hx; exact hr.later ka, fun _ => ⟨w.heap.size, 0, rfl, by simp, fun hm => by have := h.lt _ hm; omega, fun j u hu => ?_⟩⟩
    rw [Nat.zero_add, cell_of_row _ _ j _ _ (0, 0) hb]
    simpa [rcells, Rw.cells, hrow] using hu
  obtain ⟨a', c', w', h1, h2, h3⟩ := append_rws rt (h.later ka) _ 1 1 (es := [r]) hs (by simpa using hsep) (by simp; omega) (by simp; omega) ty
  exact ⟨a', c', w', h1, h2, (ka.mono (S' := v.ownBlock.toList) (by simp)).trans h3⟩

theorem off_own {w : World} {v : Value} {r : Rw} {M : List Nat} (hr : RwOk w M r) (hv : ∀ k, v.ownBlock = some k → w.heap.size ≤ k) : Off v.ownBlock.toList r.row r.bs := fun ad n c e hne hm => by
  have := hr.row.blk e hne
  have := hv _ (by simpa using hm)
  omega

theorem loadI8 {w : World} {b o : Nat} {n : Int} (c : w.cell? ⟨b, o, none⟩ = some (.int .i64 n)) : (Instr.loadAt 3 (.pointer (some ⟨b, o, none⟩))).run Try.prog w = .ok (.int .i64 n) w := run_loadCell w _ _ _ c (agg_no _ (by kernel_rfl))
/-- What Rows leaves. -/
def RowsPost (w : World) (M : List Nat) (T : Tab) (e : Ending) (w' : World) : Prop :=
  ∃ a c rs, e = .returned (.slice a rs.length c) ∧ RwsAt w' M (.slice a rs.length c) rs ∧ rs.map Rw.con = refL T ∧ Keeps [] w w'

def arrL (R : Nat → Rw) : List Value := (R 0).cells ++ (R 1).cells ++ (R 2).cells ++ (R 3).cells
theorem iArr8 : (Try.prog.info? 83).map (·.size) = some 16 := by kernel_rfl
theorem loadArr {w : World} {p : Nat} {M : List Nat} {R : Nat → Rw} {T : Tab} (h : WinAt w p M R T) : (Instr.loadAt 83 (.pointer (some ⟨p, 1, none⟩))).run Try.prog w = .ok (.agg (arrL R).toArray) w := by
  refine run_loadAt_mid w p 1 83 (arrL R) _ (fun j v hv => ?_) Try.underlying83 rfl (by rw [iArr8]; simp [arrL, Rw.cells])
  rw [cell_of_row _ _ _ _ _ (0, 0) h.blk]
  have : (winCells R)[1 + j]? = (arrL R)[j]? := by
    rw [Nat.add_comm]
    simp [winCells, arrL]
  simpa [this] using hv
theorem idxArr0 (w : World) (R : Nat → Rw) : (Instr.index 83 (.agg (arrL R).toArray) (.int .i64 ((0 : Nat) : Int))).run Try.prog w = .ok (.agg #[.int .i64 (R 0).c, .int .i64 (R 0).l, .int .i64 (R 0).s, (R 0).row]) w := by kernel_rfl
theorem idxArr1 (w : World) (R : Nat → Rw) : (Instr.index 83 (.agg (arrL R).toArray) (.int .i64 ((1 : Nat) : Int))).run Try.prog w = .ok (.agg #[.int .i64 (R 1).c, .int .i64 (R 1).l, .int .i64 (R 1).s, (R 1).row]) w := by kernel_rfl
theorem idxArr2 (w : World) (R : Nat → Rw) : (Instr.index 83 (.agg (arrL R).toArray) (.int .i64 ((2 : Nat) : Int))).run Try.prog w = .ok (.agg #[.int .i64 (R 2).c, .int .i64 (R 2).l, .int .i64 (R 2).s, (R 2).row]) w := by kernel_rfl
theorem idxArr3 (w : World) (R : Nat → Rw) : (Instr.index 83 (.agg (arrL R).toArray) (.int .i64 ((3 : Nat) : Int))).run Try.prog w = .ok (.agg #[.int .i64 (R 3).c, .int .i64 (R 3).l, .int .i64 (R 3).s, (R 3).row]) w := by kernel_rfl
theorem idxArr (w : World) (R : Nat → Rw) (k : Nat) (hk : k < 4) : (Instr.index 83 (.agg (arrL R).toArray) (.int .i64 (k : Int))).run Try.prog w = .ok (.agg #[.int .i64 (R k).c, .int .i64 (R k).l, .int .i64 (R k).s, (R k).row]) w := by
  have h : k = 0 ∨ k = 1 ∨ k = 2 ∨ k = 3 := by omega
  rcases h with rfl | rfl | rfl | rfl
  · exact idxArr0 w R
  · exact idxArr1 w R
  · exact idxArr2 w R
  · exact idxArr3 w R
theorem exec_idxArr {ρ : Operand → Value} {o : Oper} {w : World} {R : Nat → Rw} {k : Nat} {v : Value} (x y : Operand) (ho : o.op = .index 83 x y) (hx : ρ x = .agg (arrL R).toArray) (hy : ρ y = .int .i64 (k : Int)) (h : (Instr.index 83 (.agg (arrL R).toArray) (.int .i64 (k : Int))).run Try.prog w = .ok v w) :
    (execOp ρ o).run Try.prog w = .ok (.value v) w := by
  simp only [execOp, ho, hx, hy, Sem.run_bind, h, Result.andThen_ok, Sem.run_pure]

section
variable {ops : Array Oper} {rest : List Oper} {o : Oper} {a : Act} {w : World} {Q : Exit → Act → World → Prop}
theorem wpList_allocRw (hgd : o.guard = none) (ho : o.op = .alloc 82) (h : wpList Try.prog ops Q rest (a.put o.dst (.pointer (some ⟨w.heap.size, 0, none⟩))) (w.alloc (.cells #[.int .i64 0, .int .i64 0, .int .i64 0, .slice none 0 0] 82))) : wpList Try.prog ops Q (o :: rest) a w :=
  wpList_is hgd _ _ (exec_alloc 82 _ iRow8 ho) h
theorem wpList_storeRw (hgd : o.guard = none) (x y : Operand) (ho : o.op = .store 82 x y) (W : World) (hw : w = W.alloc (.cells #[.int .i64 0, .int .i64 0, .int .i64 0, .slice none 0 0] 82)) (hx : a.eval x = .pointer (some ⟨W.heap.size, 0, none⟩)) (c l s : Int) (ra : Option Addr) (n rc : Nat)
    (hy : a.eval y = .agg #[.int .i64 c, .int .i64 l, .int .i64 s, .slice ra n rc]) (h : wpList Try.prog ops Q rest (a.put o.dst undef) (W.alloc (.cells #[.int .i64 c, .int .i64 l, .int .i64 s, .slice ra n rc] 82))) : wpList Try.prog ops Q (o :: rest) a w :=
  wpList_noval hgd _ (exec_storeNew 82 x y ho W _ #[.int .i64 c, .int .i64 l, .int .i64 s, .slice ra n rc] hw hx hy iRow8 rfl (by simp [Value.oneCell'])) h
end

set_option maxHeartbeats 6400000 in
theorem nRows_any (w : World) (p : Nat) (M : List Nat) (hM : ∀ b ∈ M, b < w.heap.size) (R : Nat → Rw) (T : Tab) (H : WinAt w p M R T) : Calls Try.prog 30 #[.pointer (some ⟨p, 0, none⟩)] w (RowsPost w M T) := by
  have HH := hid H
  have IM := hid (nIsMade_any _ p M R T H)
  have LA := hid (loadArr H)
  have HM := hid hM
  clear H hM
  go_enter Try.func30, Try.ntmps30
  go_wp2_with (first | (refine wpList_is rfl _ _ (exec_load _ _ _ _ rfl rfl LA.out) ?_) | (go_at_call 42; refine IM.out.mono ?_; rintro e w' ⟨rfl, rfl⟩) | fail)
  go_loopw [3, 13] (fun lv iv wr => ∃ (k : Nat) (a : Option Addr) (c : Nat) (rs : List Rw), k ≤ 4 ∧ iv = .int .i64 k ∧ lv = .slice a rs.length c ∧ OwnW 82 wr w.heap.size M (.slice a rs.length c) rs ∧ rs.map Rw.con = refLk T k ∧ Keeps [] w wr) (fun _ iv _ => 4 - (intOf iv).toNat)
  case atStart => exact ⟨0, none, 0, [], by omega, rfl, rfl, OwnW.nil _ _ _ _ HM.out, rfl, Keeps.refl _ _⟩
  case round =>
    obtain ⟨k, a, c, rs, hk, rfl, rfl, ho, hc, kk⟩ := hrel
    have KK := hid kk
    have HO := hid ho
    have HC := hid hc
    have few : rs.length ≤ 4 := by
      have := congrArg List.length hc
      have h2 := refLk_length T k
      simp at this
      omega
    clear ho hc kk
    by_cases hlt : k < 4
    · have OK := hid ((HH.out.ok k hlt).later KK.out)
      obtain ⟨ra, rc, hrow, -⟩ := OK.out.row
      have HROW := hid hrow
      have RO := hid (HH.out.row k hlt)
      have IX := hid (fun W => idxArr W R k hlt)
      rw [hrow] at IX
      have RS := hid (refLk_succ T k)
      obtain ⟨r, hr⟩ : ∃ r, r = R k := ⟨_, rfl⟩
      rw [← hr] at OK HROW RO IX
      clear hrow hr
      have ka := (Keeps.refl [] wr).alloc (.cells #[.int .i64 r.c, .int .i64 r.l, .int .i64 r.s, .slice ra r.bs.length rc] 82)
      have BX := hid (heap_alloc_new wr (.cells #[.int .i64 r.c, .int .i64 r.l, .int .i64 r.s, .slice ra r.bs.length rc] 82))
      have CX := hid (loadI8 (block_cells4 BX.out).2.1)
      cases hT : T k with
      | none =>
        have ro := RO.out
        rw [hT] at ro
        have hn : (r.l != -1) = false := by rw [ro.1]; rfl
        have RS2 : Hid (refLk T (k + 1) = refLk T k) := hid (by rw [RS.out]; simp [entryT, hT])
        clear ro hT
        have KA := hid ka
        clear ka
        go_wp2_with (first | (refine wpList_is rfl _ _ (exec_idxArr _ _ rfl rfl rfl (IX.out _)) ?_) | (refine wpList_allocRw rfl rfl ?_) | (refine wpList_storeRw rfl _ _ rfl wr rfl rfl r.c r.l r.s ra r.bs.length rc rfl ?_) | (refine wpList_is rfl _ _ (exec_load _ _ _ _ rfl rfl CX.out) ?_) | fail)
        go_roundw
        case rel => exact ⟨k + 1, a, c, rs, by omega, by go_num, rfl, HO.out.later KA.out, by rw [RS2.out]; exact HC.out, KK.out.trans KA.out⟩
        case measure => simp [intOf]; omega
      | some x =>
        obtain ⟨xl, xs, xb⟩ := x
        have ro := RO.out
        rw [hT] at ro
        obtain ⟨q1, q2, q3, q4, q5, q6⟩ := ro
        have hn : (r.l != -1) = true := by have := (mayS_is.1 q5).2.2.1; simp; omega
        have RS2 : Hid (refLk T (k + 1) = refLk T k ++ [r.con]) := hid (by rw [RS.out]; simp [entryT, hT, Rw.con, q1, q2, q3, q4])
        clear q1 q2 q3 q4 q5 q6 hT
        have KA := hid ka
        clear ka
        go_wp2_with (first | (refine wpList_is rfl _ _ (exec_idxArr _ _ rfl rfl rfl (IX.out _)) ?_) | (refine wpList_allocRw rfl rfl ?_) | (refine wpList_storeRw rfl _ _ rfl wr rfl rfl r.c r.l r.s ra r.bs.length rc rfl ?_) | (refine wpList_is rfl _ _ (exec_load _ _ _ _ rfl rfl CX.out) ?_) | fail)
        have hzr := KK.out.size
        obtain ⟨g, hg⟩ : ∃ g, g = wr.heap.size := ⟨_, rfl⟩
        rw [← hg] at BX ⊢
        have ng : g ∉ (Value.slice a rs.length c).ownBlock.toList := fun hm => by
          have h1 := (HO.out.blk g (by simpa using hm)).2
          omega
        clear hg CX
        have OKB := hid (OK.out.later KA.out)
        have HOB := hid (HO.out.later KA.out)
        have KB := hid (KK.out.trans KA.out)
        generalize wr.alloc (.cells #[.int .i64 r.c, .int .i64 r.l, .int .i64 r.s, .slice ra r.bs.length rc] 82) = wb at KA BX OKB HOB KB ⊢
        have bl := lt_of_block BX.out
        have ownlt : ∀ b ∈ (Value.slice a rs.length c).ownBlock.toList, b < wb.heap.size := fun b hb => (HOB.out.blk b (by simpa using hb)).2
        refine wp_region_any (by kernel_rfl) (wpAny_of_held (S := KpS (Value.slice a rs.length c).ownBlock.toList wb.heap.size wb.drew) _ _ _ _ ?_)
        change wpAnyH _ _ _ _ _ _ _ _ wb.drew
        have D0 : ∀ W1, KpS (Value.slice a rs.length c).ownBlock.toList wb.heap.size wb.drew W1 → W1.heap[g]? = some (.cells #[.int .i64 r.c, .int .i64 r.l, .int .i64 r.s, .slice ra r.bs.length rc] 82 (0, 0)) := fun W1 h => (h.block g bl ng).trans BX.out
        refine held_take (i := 0) (v := .slice a rs.length c) rfl (by kernel_rfl) (by kernel_rfl) (by kernel_rfl) (fun _ _ _ h => h) rfl (fun W1 hW1 => rfl) (KpS.refl _ _ _) ?_
        simp only [Act.put, List.setIfInBounds_toArray, List.set_cons_zero, List.set_cons_succ]
        refine held_take (i := 1) (v := .pointer (some ⟨g, 0, none⟩)) rfl (by kernel_rfl) (by kernel_rfl) (by kernel_rfl) (fun _ _ _ h => h) rfl (fun W1 hW1 => by go_simp) (KpS.refl _ _ _) ?_
        simp only [Act.put, List.setIfInBounds_toArray, List.set_cons_zero, List.set_cons_succ]
        refine held_take (i := 2) (v := .agg #[.int .i64 r.c, .int .i64 r.l, .int .i64 r.s]) rfl (by kernel_rfl) (by kernel_rfl) (by kernel_rfl) (fun _ _ _ h => h) rfl (fun W1 hW1 => exec_load _ _ _ _ rfl rfl (loadSt (block_cells4 (D0 W1 hW1)).1 (block_cells4 (D0 W1 hW1)).2.1 (block_cells4 (D0 W1 hW1)).2.2.1)) (KpS.refl _ _ _) ?_
        simp only [Act.put, List.setIfInBounds_toArray, List.set_cons_zero, List.set_cons_succ]
        refine held_take (i := 3) (v := .pointer (some ⟨g, 3, none⟩)) rfl (by kernel_rfl) (by kernel_rfl) (by kernel_rfl) (fun _ _ _ h => h) rfl (fun W1 hW1 => by go_simp) (KpS.refl _ _ _) ?_
        simp only [Act.put, List.setIfInBounds_toArray, List.set_cons_zero, List.set_cons_succ]
        refine held_take (i := 4) (v := .slice ra r.bs.length rc) rfl (by kernel_rfl) (by kernel_rfl) (by kernel_rfl) (fun _ _ _ h => h) rfl (fun W1 hW1 => exec_load _ _ _ _ rfl rfl (run_loadCell W1 _ _ _ ((block_cells4 (D0 W1 hW1)).2.2.2) (agg_no _ (by kernel_rfl)))) (KpS.refl _ _ _) ?_
        simp only [Act.put, List.setIfInBounds_toArray, List.set_cons_zero, List.set_cons_succ]
        have rr := OKB.out.row
        rw [HROW.out] at rr
        refine held_do (i := 5) (by kernel_rfl) rfl rfl (wp_enter (f := 44) (args := #[.slice ra r.bs.length rc]) (by go_simp) (cloneK_any wb.drew _ r.bs (rr.keep ((Keeps.refl [] wb).drew) (by intro _ _ _ _ _; simp)) (by have := OKB.out.fit; omega)) ?_)
        rintro e w3 ⟨a3, c3, rfl, r3, n3, k3⟩
        have sC : KpS (Value.slice a rs.length c).ownBlock.toList wb.heap.size wb.drew w3 := (KpS.refl _ _ _).keeps k3 (by simp) (by simp)
        refine ⟨_, rfl, sC, ?_⟩
        simp only [Act.put, List.setIfInBounds_toArray, List.set_cons_zero, List.set_cons_succ]
        refine held_take (i := 6) (v := .agg #[.int .i64 r.c, .int .i64 r.l, .int .i64 r.s, .slice a3 r.bs.length c3]) rfl (by kernel_rfl) (by kernel_rfl) (by kernel_rfl) (fun _ _ _ h => h) rfl (fun W1 hW1 => by go_simp) (sC) ?_
        simp only [Act.put, List.setIfInBounds_toArray, List.set_cons_zero, List.set_cons_succ]
        refine held_do (i := 7) (by kernel_rfl) rfl rfl (wp_value (exec_oneRw rtP _ _ _ _ _ _ _ rfl rfl) ?_)
        have kD : Keeps [] wb w3 := (Keeps.refl [] wb).drew.trans k3
        have OK3 : RwOk w3 M ⟨r.c, r.l, r.s, .slice a3 r.bs.length c3, r.bs⟩ := ⟨r3, off_new n3 (fun b hb => by have h1 := HM.out b hb; have h2 : w.heap.size ≤ wb.drew.heap.size := KB.out.size; omega), OKB.out.fit, OKB.out.b0, OKB.out.b1, OKB.out.b2⟩
        have hz3 := kD.size
        obtain ⟨a4, c4, w4, hr4, o4, k4⟩ := append_row rtP (HOB.out.later kD) ⟨r.c, r.l, r.s, .slice a3 r.bs.length c3, r.bs⟩ OK3 (off_new n3 (fun b hb => ownlt b hb)) (by omega) (by have := KB.out.size; omega) 64 rfl
        have ka3 := (Keeps.refl [] w3).alloc (.cells #[.int .i64 r.c, .int .i64 r.l, .int .i64 r.s, .slice a3 r.bs.length c3] 82)
        have sE : KpS (Value.slice a rs.length c).ownBlock.toList wb.heap.size wb.drew (w3.alloc (.cells #[.int .i64 r.c, .int .i64 r.l, .int .i64 r.s, .slice a3 r.bs.length c3] 82)) := sC.keeps ka3 kD.size (by simp)
        refine ⟨sE, ?_⟩
        simp only [Act.put, List.setIfInBounds_toArray, List.set_cons_zero, List.set_cons_succ]
        refine held_do (i := 8) (by kernel_rfl) rfl rfl (wp_value (exec_appendT 64 _ _ rfl rfl rfl hr4) ?_)
        have sF : KpS (Value.slice a rs.length c).ownBlock.toList wb.heap.size wb.drew w4 := sC.keeps k4 kD.size (fun j hj _ => hj)
        refine ⟨sF, ?_⟩
        simp only [Act.put, List.setIfInBounds_toArray, List.set_cons_zero, List.set_cons_succ]
        refine held_take (i := 9) (v := .slice a4 (rs.length + 1) c4) rfl (by kernel_rfl) (by kernel_rfl) (by kernel_rfl) (fun _ _ _ h => h) rfl (fun W1 hW1 => by go_simp) (sF) ?_
        simp only [Act.put, List.setIfInBounds_toArray, List.set_cons_zero, List.set_cons_succ]
        refine wpAnyH_done (by kernel_rfl) ?_ _
        have O4 := hid o4
        have K4 : Hid (Keeps [] w w4) := hid ((KB.out.trans kD).trans' k4 (fun j hj hm => by have := (HO.out.blk j (by simpa using hm)).1; omega))
        clear D0 sC sE sF o4 k4 hr4 OK3 r3 n3 k3 ka3 kD hz3 rr ng ownlt bl
        go_wp2_with fail
        go_roundw
        case rel =>
          refine ⟨k + 1, a4, c4, rs ++ [⟨r.c, r.l, r.s, .slice a3 r.bs.length c3, r.bs⟩], by omega, by go_num, by simp, ?_, ?_, K4.out⟩
          · rw [List.length_append]; exact O4.out
          · rw [RS2.out, List.map_append, HC.out]; rfl
        case measure => simp [intOf]; omega
    · obtain rfl : k = 4 := by omega
      go_wp2_with fail
      go_ret
      exact ⟨a, c, rs, rfl, HO.out.at, HC.out, KK.out⟩
end Go.Proofs.Ytkfebgbgnpdgpaa
