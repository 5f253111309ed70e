/- once: the walk of kind. -/
import Derived.Test.YtkfebgbgnpdgpaaOnB
namespace Go.Proofs.Ytkfebgbgnpdgpaa
open Go.RowKit Go.Shelf
set_option maxRecDepth 100000

/-- What the four questions ask. -/
def kindR (c l s : Int) (r : Rw) : Int := if l < r.l then 2 else if r.l < l then 3 else if c = r.c ∧ l = r.l ∧ s = r.s then 1 else if s < r.s then 2 else 0
theorem kind_row {w : World} {M : List Nat} {c l s : Int} (h : mayS c l s = true) {r : Rw} {o : Option (Int × Int × List Int)} (hr : RowOf w M c.toNat r o) : kindE l s o = kindR c l s r := by
  obtain ⟨h1, h2, h3, h4, h5, h6⟩ := mayS_is.1 h
  match o, hr with
  | none, hr =>
    obtain ⟨e1, _⟩ := hr
    simp only [kindE, kindR, e1]
    rw [if_neg (by omega), if_pos (by omega)]
  | some (l', s', b), ⟨e1, e2, e3, e4, _⟩ =>
    subst e2 e3
    have e1' : c = r.c := by omega
    simp only [kindE, kindR]
    by_cases g1 : l < r.l
    · rw [if_pos g1, if_pos g1]
    · rw [if_neg g1, if_neg g1]
      by_cases g2 : r.l < l
      · rw [if_pos g2, if_pos g2]
      · rw [if_neg g2, if_neg g2]
        have g3 : l = r.l := by omega
        by_cases g4 : s = r.s
        · rw [if_pos g4, if_pos ⟨e1', g3, g4⟩]
        · have g5 : ¬ (c = r.c ∧ l = r.l ∧ s = r.s) := fun h => g4 h.2.2
          rw [if_neg g4, if_neg g5]

/-- The questions that were asked do not hold. -/
def NotYet (c l s : Int) (r : Rw) (k : Nat) : Prop := (1 ≤ k → ¬ l < r.l) ∧ (2 ≤ k → ¬ r.l < l) ∧ (3 ≤ k → ¬ (c = r.c ∧ l = r.l ∧ s = r.s)) ∧ (4 ≤ k → ¬ s < r.s)

theorem ret_i8 {a b : Int} (h : a = b) : Ending.returned (.int .i64 a) = .returned (.int .i64 b) := by rw [h]

theorem loadSt {w : World} {b o : Nat} {x0 x1 x2 : Value} (c0 : w.cell? ⟨b, o, none⟩ = some x0) (c1 : w.cell? ⟨b, o + 1, none⟩ = some x1) (c2 : w.cell? ⟨b, o + 2, none⟩ = some x2) :
    (Instr.loadAt 48 (.pointer (some ⟨b, o, none⟩))).run Try.prog w = .ok (.agg #[x0, x1, x2]) w := load_row [x0, x1, x2] Try.underlying48 rfl iStamp (cells3 c0 c1 c2)
theorem loadStB {w : World} {b : Nat} {x0 x1 x2 : Value} (h : w.heap[b]? = some (.cells #[x0, x1, x2] 48 (0, 0))) :
    (Instr.loadAt 48 (.pointer (some ⟨b, 0, none⟩))).run Try.prog w = .ok (.agg #[x0, x1, x2]) w := by
  obtain ⟨c0, c1, c2⟩ := block_cells3 h
  exact loadSt c0 c1 c2

theorem kindR_0 {c l s : Int} {r : Rw} (_ : NotYet c l s r 0) (h : l < r.l) : kindR c l s r = 2 := by rw [kindR, if_pos h]
theorem kindR_1 {c l s : Int} {r : Rw} (n : NotYet c l s r 1) (h : r.l < l) : kindR c l s r = 3 := by rw [kindR, if_neg (n.1 (by omega)), if_pos h]
theorem kindR_2 {c l s : Int} {r : Rw} (n : NotYet c l s r 2) (h : c = r.c ∧ l = r.l ∧ s = r.s) : kindR c l s r = 1 := by rw [kindR, if_neg (n.1 (by omega)), if_neg (n.2.1 (by omega)), if_pos h]
theorem kindR_3 {c l s : Int} {r : Rw} (n : NotYet c l s r 3) (h : s < r.s) : kindR c l s r = 2 := by rw [kindR, if_neg (n.1 (by omega)), if_neg (n.2.1 (by omega)), if_neg (n.2.2.1 (by omega)), if_pos h]
theorem kindR_4 {c l s : Int} {r : Rw} (n : NotYet c l s r 4) : kindR c l s r = 0 := by rw [kindR, if_neg (n.1 (by omega)), if_neg (n.2.1 (by omega)), if_neg (n.2.2.1 (by omega)), if_neg (n.2.2.2 (by omega))]
theorem notYet_0 {c l s : Int} {r : Rw} (_ : NotYet c l s r 0) (h : ¬ l < r.l) : NotYet c l s r 1 := ⟨fun _ => h, by omega, by omega, by omega⟩
theorem notYet_1 {c l s : Int} {r : Rw} (n : NotYet c l s r 1) (h : ¬ r.l < l) : NotYet c l s r 2 := ⟨fun _ => n.1 (by omega), fun _ => h, by omega, by omega⟩
theorem notYet_2 {c l s : Int} {r : Rw} (n : NotYet c l s r 2) (h : ¬ (c = r.c ∧ l = r.l ∧ s = r.s)) : NotYet c l s r 3 := ⟨fun _ => n.1 (by omega), fun _ => n.2.1 (by omega), fun _ => h, by omega⟩
theorem notYet_3 {c l s : Int} {r : Rw} (n : NotYet c l s r 3) (h : ¬ s < r.s) : NotYet c l s r 4 := ⟨fun _ => n.1 (by omega), fun _ => n.2.1 (by omega), fun _ => n.2.2.1 (by omega), fun _ => h⟩

section
variable {ops : Array Oper} {rest : List Oper} {o : Oper} {a : Act} {w : World} {Q : Exit → Act → World → Prop}
theorem idxQ0 (w : World) : (Instr.index 96 (.agg qsA) (.int .i64 ((0 : Nat) : Int))).run Try.prog w = .ok (.agg #[Value.func (.func 53) #[] #[], .int .i64 2]) w := by kernel_rfl
theorem wpList_idxQ0 (hgd : o.guard = none) (x y : Operand) (ho : o.op = .index 96 x y) (hx : a.eval x = .agg qsA) (hy : a.eval y = .int .i64 ((0 : Nat) : Int)) (h : wpList Try.prog ops Q rest (a.put o.dst (.agg #[Value.func (.func 53) #[] #[], .int .i64 2])) w) : wpList Try.prog ops Q (o :: rest) a w :=
  wpList_is hgd _ _ (by simp only [execOp, ho, hx, hy, Sem.run_bind, idxQ0, Result.andThen_ok, Sem.run_pure]) h
theorem idxQ1 (w : World) : (Instr.index 96 (.agg qsA) (.int .i64 ((1 : Nat) : Int))).run Try.prog w = .ok (.agg #[Value.func (.func 54) #[] #[], .int .i64 3]) w := by kernel_rfl
theorem wpList_idxQ1 (hgd : o.guard = none) (x y : Operand) (ho : o.op = .index 96 x y) (hx : a.eval x = .agg qsA) (hy : a.eval y = .int .i64 ((1 : Nat) : Int)) (h : wpList Try.prog ops Q rest (a.put o.dst (.agg #[Value.func (.func 54) #[] #[], .int .i64 3])) w) : wpList Try.prog ops Q (o :: rest) a w :=
  wpList_is hgd _ _ (by simp only [execOp, ho, hx, hy, Sem.run_bind, idxQ1, Result.andThen_ok, Sem.run_pure]) h
theorem idxQ2 (w : World) : (Instr.index 96 (.agg qsA) (.int .i64 ((2 : Nat) : Int))).run Try.prog w = .ok (.agg #[Value.func (.func 55) #[] #[], .int .i64 1]) w := by kernel_rfl
theorem wpList_idxQ2 (hgd : o.guard = none) (x y : Operand) (ho : o.op = .index 96 x y) (hx : a.eval x = .agg qsA) (hy : a.eval y = .int .i64 ((2 : Nat) : Int)) (h : wpList Try.prog ops Q rest (a.put o.dst (.agg #[Value.func (.func 55) #[] #[], .int .i64 1])) w) : wpList Try.prog ops Q (o :: rest) a w :=
  wpList_is hgd _ _ (by simp only [execOp, ho, hx, hy, Sem.run_bind, idxQ2, Result.andThen_ok, Sem.run_pure]) h
theorem idxQ3 (w : World) : (Instr.index 96 (.agg qsA) (.int .i64 ((3 : Nat) : Int))).run Try.prog w = .ok (.agg #[Value.func (.func 56) #[] #[], .int .i64 2]) w := by kernel_rfl
theorem wpList_idxQ3 (hgd : o.guard = none) (x y : Operand) (ho : o.op = .index 96 x y) (hx : a.eval x = .agg qsA) (hy : a.eval y = .int .i64 ((3 : Nat) : Int)) (h : wpList Try.prog ops Q rest (a.put o.dst (.agg #[Value.func (.func 56) #[] #[], .int .i64 2])) w) : wpList Try.prog ops Q (o :: rest) a w :=
  wpList_is hgd _ _ (by simp only [execOp, ho, hx, hy, Sem.run_bind, idxQ3, Result.andThen_ok, Sem.run_pure]) h
theorem wpList_allocQn (hgd : o.guard = none) (ho : o.op = .alloc 95) (h : wpList Try.prog ops Q rest (a.put o.dst (.pointer (some ⟨w.heap.size, 0, none⟩))) (w.alloc (.cells #[.nilFunc, .int .i64 0] 95))) : wpList Try.prog ops Q (o :: rest) a w :=
  wpList_is hgd _ _ (exec_alloc 95 _ iQn ho) h
theorem wpList_storeQn (hgd : o.guard = none) (x y : Operand) (ho : o.op = .store 95 x y) (W : World) (hw : w = W.alloc (.cells #[.nilFunc, .int .i64 0] 95)) (hx : a.eval x = .pointer (some ⟨W.heap.size, 0, none⟩)) (f : FuncId) (n : Int)
    (hy : a.eval y = .agg #[.func (.func f) #[] #[], .int .i64 n]) (h : wpList Try.prog ops Q rest (a.put o.dst undef) (W.alloc (.cells #[.func (.func f) #[] #[], .int .i64 n] 95))) : wpList Try.prog ops Q (o :: rest) a w :=
  wpList_noval hgd _ (exec_storeNew 95 x y ho W _ #[.func (.func f) #[] #[], .int .i64 n] hw hx hy iQn rfl (by simp [Value.oneCell'])) h
end

set_option linter.unusedSimpArgs false
set_option maxHeartbeats 6400000 in
theorem nKind_any (w : World) (p : Nat) (M : List Nat) (R : Nat → Rw) (T : Tab) (H : WinAt w p M R T) (c l s : Int) : Calls Try.prog 43 #[.pointer (some ⟨p, 0, none⟩), stV c l s] w fun e w' => e = .returned (.int .i64 (kindS T c l s)) ∧ Keeps [] w w' := by
  have MA := hid (fun W => nMay_any W c l s)
  have KA := hid ((Keeps.refl [] w).alloc (.cells #[.int .i64 c, .int .i64 l, .int .i64 s] 48))
  have BA := hid (heap_alloc_new w (.cells #[.int .i64 c, .int .i64 l, .int .i64 s] 48))
  have HH := hid H
  clear H
  unfold stV at MA ⊢
  by_cases hm : mayS c l s = true
  · obtain ⟨q1, q2, _⟩ := mayS_is.1 hm
    obtain ⟨k, rfl⟩ : ∃ k : Nat, c = k := ⟨c.toNat, by omega⟩
    have hk : k < 4 := by omega
    have KR : Hid (kindS T k l s = kindR k l s (R k)) := hid (by
      have := HH.out.row k hk
      simp only [kindS, hm, if_true, Int.toNat_natCast]
      exact kind_row hm (by simpa using this))
    rw [KR.out]
    rw [hm] at MA
    go_enter Try.func43, Try.ntmps43
    go_wp2_with (first | (go_at_call 49; refine (MA.out _).mono ?_; rintro e w1 ⟨rfl, k1⟩; have K1 := hid (KA.out.trans k1); have B1 := hid ((k1.block _ (lt_of_block BA.out) (by simp)).trans BA.out); clear k1) | fail)
    have kw := K1.out
    have HW := hid (HH.out.later kw)
    have KN := hid (fun W => nKinds_any W)
    have cR := HW.out.cells k hk
    obtain ⟨b0, b1, b2⟩ := block_cells3 B1.out
    have bl1 := lt_of_block B1.out
    have pl := HW.out.lt
    obtain ⟨g, hg⟩ : ∃ g, g = w.heap.size := ⟨_, rfl⟩
    rw [← hg] at b0 b1 b2 bl1 B1 ⊢
    have HG := hid hg
    clear hg kw
    refine wp_region_any (by kernel_rfl) (wpAny_of_held (S := KpS [] w1.heap.size w1.drew) _ _ _ _ ?_)
    change wpAnyH _ _ _ _ _ _ _ _ w1.drew
    have D0 : ∀ W1, KpS [] w1.heap.size w1.drew W1 → W1.cell? ⟨g, 0, none⟩ = some (.int .i64 k) := fun W1 h => h.cell (by rw [World.cell?_drew]; exact b0) bl1 (by simp)
    have D1 : ∀ W1, KpS [] w1.heap.size w1.drew W1 → W1.cell? ⟨p, 1 + k * 4, none⟩ = some (.int .i64 (R k).c) := fun W1 h => h.cell (by rw [World.cell?_drew]; exact cR.1) pl (by simp)
    have D2 : ∀ W1, KpS [] w1.heap.size w1.drew W1 → W1.cell? ⟨p, 1 + k * 4 + 1, none⟩ = some (.int .i64 (R k).l) := fun W1 h => h.cell (by rw [World.cell?_drew]; exact cR.2.1) pl (by simp)
    have D3 : ∀ W1, KpS [] w1.heap.size w1.drew W1 → W1.cell? ⟨p, 1 + k * 4 + 2, none⟩ = some (.int .i64 (R k).s) := fun W1 h => h.cell (by rw [World.cell?_drew]; exact cR.2.2.1) pl (by simp)
    refine held_take (i := 0) (v := .pointer (some ⟨p, 0, none⟩)) rfl (by kernel_rfl) (by kernel_rfl) (by kernel_rfl) (fun _ _ _ h => h) rfl (fun W1 hW1 => rfl) (KpS.refl _ _ _) ?_
    simp only [Act.put, List.setIfInBounds_toArray, List.set_cons_zero, List.set_cons_succ]
    refine held_take (i := 1) (v := .pointer (some ⟨g, 0, none⟩)) rfl (by kernel_rfl) (by kernel_rfl) (by kernel_rfl) (fun _ _ _ h => h) rfl (fun W1 hW1 => by go_simp) (KpS.refl _ _ _) ?_
    simp only [Act.put, List.setIfInBounds_toArray, List.set_cons_zero, List.set_cons_succ]
    refine held_take (i := 2) (v := .int .i64 k) rfl (by kernel_rfl) (by kernel_rfl) (by kernel_rfl) (fun _ _ _ h => h) rfl (fun W1 hW1 => exec_load _ _ _ _ rfl rfl (run_loadCell W1 _ _ _ (D0 W1 hW1) (agg_no _ (by kernel_rfl)))) (KpS.refl _ _ _) ?_
    simp only [Act.put, List.setIfInBounds_toArray, List.set_cons_zero, List.set_cons_succ]
    refine held_take (i := 3) (v := .pointer (some ⟨p, 0, none⟩)) rfl (by kernel_rfl) (by kernel_rfl) (by kernel_rfl) (fun _ _ _ h => h) rfl (fun W1 hW1 => by go_simp) (KpS.refl _ _ _) ?_
    simp only [Act.put, List.setIfInBounds_toArray, List.set_cons_zero, List.set_cons_succ]
    refine held_take (i := 4) (v := .pointer (some ⟨p, 1, none⟩)) rfl (by kernel_rfl) (by kernel_rfl) (by kernel_rfl) (fun _ _ _ h => h) rfl (fun W1 hW1 => by go_simp) (KpS.refl _ _ _) ?_
    simp only [Act.put, List.setIfInBounds_toArray, List.set_cons_zero, List.set_cons_succ]
    refine held_take (i := 5) (v := .pointer (some ⟨p, 1 + k * 4, none⟩)) rfl (by kernel_rfl) (by kernel_rfl) (by kernel_rfl) (fun _ _ _ h => h) rfl (fun W1 hW1 => by go_simp) (KpS.refl _ _ _) ?_
    simp only [Act.put, List.setIfInBounds_toArray, List.set_cons_zero, List.set_cons_succ]
    refine held_take (i := 6) (v := .pointer (some ⟨p, 1 + k * 4, none⟩)) rfl (by kernel_rfl) (by kernel_rfl) (by kernel_rfl) (fun _ _ _ h => h) rfl (fun W1 hW1 => by go_simp) (KpS.refl _ _ _) ?_
    simp only [Act.put, List.setIfInBounds_toArray, List.set_cons_zero, List.set_cons_succ]
    refine held_take (i := 7) (v := stV (R k).c (R k).l (R k).s) rfl (by kernel_rfl) (by kernel_rfl) (by kernel_rfl) (fun _ _ _ h => h) rfl (fun W1 hW1 => exec_load _ _ _ _ rfl rfl (loadSt (D1 W1 hW1) (D2 W1 hW1) (D3 W1 hW1))) (KpS.refl _ _ _) ?_
    simp only [Act.put, List.setIfInBounds_toArray, List.set_cons_zero, List.set_cons_succ]
    refine held_do (i := 8) (by kernel_rfl) rfl rfl (wp_value (exec_alloc 48 _ iStamp rfl) ?_)
    refine ⟨(KpS.refl _ _ _).alloc (by simp) _, ?_⟩
    simp only [Act.put, List.setIfInBounds_toArray, List.set_cons_zero, List.set_cons_succ]
    refine held_do (i := 9) (by kernel_rfl) rfl rfl (wp_stored (exec_storeNew 48 _ _ rfl w1.drew _ #[.int .i64 (R k).c, .int .i64 (R k).l, .int .i64 (R k).s] rfl rfl rfl iStamp rfl (by simp [Value.oneCell'])) ?_)
    refine ⟨(KpS.refl _ _ _).alloc (by simp) _, ?_⟩
    simp only [Act.put, List.setIfInBounds_toArray, List.set_cons_zero, List.set_cons_succ]
    refine wpAnyH_done (by kernel_rfl) ?_ _
    have k2 : Keeps [] w1 (w1.drew.alloc (.cells #[.int .i64 (R k).c, .int .i64 (R k).l, .int .i64 (R k).s] 48)) := (Keeps.refl [] w1).drew.alloc _
    have B5 := hid (heap_alloc_new w1.drew (.cells #[.int .i64 (R k).c, .int .i64 (R k).l, .int .i64 (R k).s] 48))
    have B1' := hid ((k2.block _ bl1 (by simp)).trans B1.out)
    have K2 := hid (K1.out.trans k2)
    clear D0 D1 D2 D3 b0 b1 b2 cR k2
    generalize w1.drew.alloc (.cells #[.int .i64 (R k).c, .int .i64 (R k).l, .int .i64 (R k).s] 48) = w2 at B5 B1' K2 ⊢
    obtain ⟨g5, hg5⟩ : ∃ g5, g5 = w1.drew.heap.size := ⟨_, rfl⟩
    rw [← hg5] at B5 ⊢
    clear hg5
    unfold qsV at KN
    unfold stV
    go_wp2_with (first | (go_at_call 52; refine (KN.out _).mono ?_; rintro e w3 ⟨rfl, k3⟩; have K3 := hid (K2.out.trans k3); have B13 := hid ((k3.block _ (lt_of_block B1'.out) (by simp)).trans B1'.out); have B53 := hid ((k3.block _ (lt_of_block B5.out) (by simp)).trans B5.out); clear k3) | fail)
    go_loopw [20] (fun iv wr => ∃ j : Nat, j ≤ 4 ∧ iv = .int .i64 j ∧ Keeps [] w3 wr ∧ NotYet k l s (R k) j) (fun iv _ => 4 - (intOf iv).toNat)
    case atStart => exact ⟨0, by omega, rfl, Keeps.refl _ _, ⟨by omega, by omega, by omega, by omega⟩⟩
    case round =>
      obtain ⟨j, hj, rfl, kr, ny⟩ := hrel
      have KR2 := hid (Keeps.refl [] wr)
      have KW := hid (K3.out.trans kr)
      have B1W := hid ((kr.block _ (lt_of_block B13.out) (by simp)).trans B13.out)
      have B5W := hid ((kr.block _ (lt_of_block B53.out) (by simp)).trans B53.out)
      have RK : Hid (∀ {n : Int}, kindR k l s (R k) = n → n = kindR k l s (R k)) := hid (fun h => h.symm)
      have NY := hid ny
      have KRR := hid kr
      clear ny kr
      have hjc : j = 0 ∨ j = 1 ∨ j = 2 ∨ j = 3 ∨ j = 4 := by omega
      rcases hjc with rfl | rfl | rfl | rfl | rfl
      · have kq := (KR2.out).alloc (.cells #[.func (.func 53) #[] #[], .int .i64 2] 95)
        have FB := hid ((kq.block _ (lt_of_block B1W.out) (by simp)).trans B1W.out)
        have FC := hid ((kq.block _ (lt_of_block B5W.out) (by simp)).trans B5W.out)
        have KQ := hid (KW.out.trans kq)
        have CV := hid (show (wr.alloc (.cells #[.func (.func 53) #[] #[], .int .i64 2] 95)).cell? ⟨wr.heap.size, 1, none⟩ = some (.int .i64 2) by rw [cell_of_row _ _ 1 _ _ (0, 0) (heap_alloc_new wr _)]; rfl)
        have KQ3 := hid (KRR.out.trans kq)
        have CQ := hid (fun W => nElder_any W k l s (R k).c (R k).l (R k).s)
        unfold stV at CQ
        by_cases hq : l < (R k).l
        · rw [show decide (l < (R k).l) = true from decide_eq_true hq] at CQ
          have RES := hid (RK.out (show kindR k l s (R k) = 2 from kindR_0 NY.out hq))
          clear kq hq
          go_wp2_with (first | (refine wpList_idxQ0 rfl _ _ rfl rfl rfl ?_) | (refine wpList_allocQn rfl rfl ?_) | (refine wpList_storeQn rfl _ _ rfl wr rfl rfl 53 2 rfl ?_) | (refine wpList_is rfl _ _ (exec_load _ _ _ _ rfl rfl (loadStB FB.out)) ?_) | (refine wpList_is rfl _ _ (exec_load _ _ _ _ rfl rfl (loadStB FC.out)) ?_) | (go_at_call 53; refine (CQ.out _).mono ?_; rintro e w5 ⟨rfl, k5⟩; have K5 := hid (KQ.out.trans k5); have cv := k5.cell' CV.out (by simp); clear k5) | fail)
          go_ret
          exact ⟨ret_i8 RES.out, K5.out⟩
        · rw [show decide (l < (R k).l) = false from decide_eq_false hq] at CQ
          have NY2 := hid (notYet_0 NY.out hq)
          clear kq hq
          go_wp2_with (first | (refine wpList_idxQ0 rfl _ _ rfl rfl rfl ?_) | (refine wpList_allocQn rfl rfl ?_) | (refine wpList_storeQn rfl _ _ rfl wr rfl rfl 53 2 rfl ?_) | (refine wpList_is rfl _ _ (exec_load _ _ _ _ rfl rfl (loadStB FB.out)) ?_) | (refine wpList_is rfl _ _ (exec_load _ _ _ _ rfl rfl (loadStB FC.out)) ?_) | (go_at_call 53; refine (CQ.out _).mono ?_; rintro e w5 ⟨rfl, k5⟩; have K5 := hid (KQ3.out.trans k5); clear k5) | fail)
          go_roundw
          case rel => exact ⟨1, by omega, by go_num, K5.out, NY2.out⟩
          case measure => simp [intOf]
      · have kq := (KR2.out).alloc (.cells #[.func (.func 54) #[] #[], .int .i64 3] 95)
        have FB := hid ((kq.block _ (lt_of_block B1W.out) (by simp)).trans B1W.out)
        have FC := hid ((kq.block _ (lt_of_block B5W.out) (by simp)).trans B5W.out)
        have KQ := hid (KW.out.trans kq)
        have CV := hid (show (wr.alloc (.cells #[.func (.func 54) #[] #[], .int .i64 3] 95)).cell? ⟨wr.heap.size, 1, none⟩ = some (.int .i64 3) by rw [cell_of_row _ _ 1 _ _ (0, 0) (heap_alloc_new wr _)]; rfl)
        have KQ3 := hid (KRR.out.trans kq)
        have CQ := hid (fun W => nNewer_any W k l s (R k).c (R k).l (R k).s)
        unfold stV at CQ
        by_cases hq : (R k).l < l
        · rw [show decide ((R k).l < l) = true from decide_eq_true hq] at CQ
          have RES := hid (RK.out (show kindR k l s (R k) = 3 from kindR_1 NY.out hq))
          clear kq hq
          go_wp2_with (first | (refine wpList_idxQ1 rfl _ _ rfl rfl rfl ?_) | (refine wpList_allocQn rfl rfl ?_) | (refine wpList_storeQn rfl _ _ rfl wr rfl rfl 54 3 rfl ?_) | (refine wpList_is rfl _ _ (exec_load _ _ _ _ rfl rfl (loadStB FB.out)) ?_) | (refine wpList_is rfl _ _ (exec_load _ _ _ _ rfl rfl (loadStB FC.out)) ?_) | (go_at_call 54; refine (CQ.out _).mono ?_; rintro e w5 ⟨rfl, k5⟩; have K5 := hid (KQ.out.trans k5); have cv := k5.cell' CV.out (by simp); clear k5) | fail)
          go_ret
          exact ⟨ret_i8 RES.out, K5.out⟩
        · rw [show decide ((R k).l < l) = false from decide_eq_false hq] at CQ
          have NY2 := hid (notYet_1 NY.out hq)
          clear kq hq
          go_wp2_with (first | (refine wpList_idxQ1 rfl _ _ rfl rfl rfl ?_) | (refine wpList_allocQn rfl rfl ?_) | (refine wpList_storeQn rfl _ _ rfl wr rfl rfl 54 3 rfl ?_) | (refine wpList_is rfl _ _ (exec_load _ _ _ _ rfl rfl (loadStB FB.out)) ?_) | (refine wpList_is rfl _ _ (exec_load _ _ _ _ rfl rfl (loadStB FC.out)) ?_) | (go_at_call 54; refine (CQ.out _).mono ?_; rintro e w5 ⟨rfl, k5⟩; have K5 := hid (KQ3.out.trans k5); clear k5) | fail)
          go_roundw
          case rel => exact ⟨2, by omega, by go_num, K5.out, NY2.out⟩
          case measure => simp [intOf]
      · have kq := (KR2.out).alloc (.cells #[.func (.func 55) #[] #[], .int .i64 1] 95)
        have FB := hid ((kq.block _ (lt_of_block B1W.out) (by simp)).trans B1W.out)
        have FC := hid ((kq.block _ (lt_of_block B5W.out) (by simp)).trans B5W.out)
        have KQ := hid (KW.out.trans kq)
        have CV := hid (show (wr.alloc (.cells #[.func (.func 55) #[] #[], .int .i64 1] 95)).cell? ⟨wr.heap.size, 1, none⟩ = some (.int .i64 1) by rw [cell_of_row _ _ 1 _ _ (0, 0) (heap_alloc_new wr _)]; rfl)
        have KQ3 := hid (KRR.out.trans kq)
        have CQ := hid (fun W => nSame_any W k l s (R k).c (R k).l (R k).s)
        unfold stV at CQ
        by_cases hq : (k : Int) = (R k).c ∧ l = (R k).l ∧ s = (R k).s
        · rw [show decide ((k : Int) = (R k).c ∧ l = (R k).l ∧ s = (R k).s) = true from decide_eq_true hq] at CQ
          have RES := hid (RK.out (show kindR k l s (R k) = 1 from kindR_2 NY.out hq))
          clear kq hq
          go_wp2_with (first | (refine wpList_idxQ2 rfl _ _ rfl rfl rfl ?_) | (refine wpList_allocQn rfl rfl ?_) | (refine wpList_storeQn rfl _ _ rfl wr rfl rfl 55 1 rfl ?_) | (refine wpList_is rfl _ _ (exec_load _ _ _ _ rfl rfl (loadStB FB.out)) ?_) | (refine wpList_is rfl _ _ (exec_load _ _ _ _ rfl rfl (loadStB FC.out)) ?_) | (go_at_call 55; refine (CQ.out _).mono ?_; rintro e w5 ⟨rfl, k5⟩; have K5 := hid (KQ.out.trans k5); have cv := k5.cell' CV.out (by simp); clear k5) | fail)
          go_ret
          exact ⟨ret_i8 RES.out, K5.out⟩
        · rw [show decide ((k : Int) = (R k).c ∧ l = (R k).l ∧ s = (R k).s) = false from decide_eq_false hq] at CQ
          have NY2 := hid (notYet_2 NY.out hq)
          clear kq hq
          go_wp2_with (first | (refine wpList_idxQ2 rfl _ _ rfl rfl rfl ?_) | (refine wpList_allocQn rfl rfl ?_) | (refine wpList_storeQn rfl _ _ rfl wr rfl rfl 55 1 rfl ?_) | (refine wpList_is rfl _ _ (exec_load _ _ _ _ rfl rfl (loadStB FB.out)) ?_) | (refine wpList_is rfl _ _ (exec_load _ _ _ _ rfl rfl (loadStB FC.out)) ?_) | (go_at_call 55; refine (CQ.out _).mono ?_; rintro e w5 ⟨rfl, k5⟩; have K5 := hid (KQ3.out.trans k5); clear k5) | fail)
          go_roundw
          case rel => exact ⟨3, by omega, by go_num, K5.out, NY2.out⟩
          case measure => simp [intOf]
      · have kq := (KR2.out).alloc (.cells #[.func (.func 56) #[] #[], .int .i64 2] 95)
        have FB := hid ((kq.block _ (lt_of_block B1W.out) (by simp)).trans B1W.out)
        have FC := hid ((kq.block _ (lt_of_block B5W.out) (by simp)).trans B5W.out)
        have KQ := hid (KW.out.trans kq)
        have CV := hid (show (wr.alloc (.cells #[.func (.func 56) #[] #[], .int .i64 2] 95)).cell? ⟨wr.heap.size, 1, none⟩ = some (.int .i64 2) by rw [cell_of_row _ _ 1 _ _ (0, 0) (heap_alloc_new wr _)]; rfl)
        have KQ3 := hid (KRR.out.trans kq)
        have CQ := hid (fun W => nBehind_any W k l s (R k).c (R k).l (R k).s)
        unfold stV at CQ
        by_cases hq : s < (R k).s
        · rw [show decide (s < (R k).s) = true from decide_eq_true hq] at CQ
          have RES := hid (RK.out (show kindR k l s (R k) = 2 from kindR_3 NY.out hq))
          clear kq hq
          go_wp2_with (first | (refine wpList_idxQ3 rfl _ _ rfl rfl rfl ?_) | (refine wpList_allocQn rfl rfl ?_) | (refine wpList_storeQn rfl _ _ rfl wr rfl rfl 56 2 rfl ?_) | (refine wpList_is rfl _ _ (exec_load _ _ _ _ rfl rfl (loadStB FB.out)) ?_) | (refine wpList_is rfl _ _ (exec_load _ _ _ _ rfl rfl (loadStB FC.out)) ?_) | (go_at_call 56; refine (CQ.out _).mono ?_; rintro e w5 ⟨rfl, k5⟩; have K5 := hid (KQ.out.trans k5); have cv := k5.cell' CV.out (by simp); clear k5) | fail)
          go_ret
          exact ⟨ret_i8 RES.out, K5.out⟩
        · rw [show decide (s < (R k).s) = false from decide_eq_false hq] at CQ
          have NY2 := hid (notYet_3 NY.out hq)
          clear kq hq
          go_wp2_with (first | (refine wpList_idxQ3 rfl _ _ rfl rfl rfl ?_) | (refine wpList_allocQn rfl rfl ?_) | (refine wpList_storeQn rfl _ _ rfl wr rfl rfl 56 2 rfl ?_) | (refine wpList_is rfl _ _ (exec_load _ _ _ _ rfl rfl (loadStB FB.out)) ?_) | (refine wpList_is rfl _ _ (exec_load _ _ _ _ rfl rfl (loadStB FC.out)) ?_) | (go_at_call 56; refine (CQ.out _).mono ?_; rintro e w5 ⟨rfl, k5⟩; have K5 := hid (KQ3.out.trans k5); clear k5) | fail)
          go_roundw
          case rel => exact ⟨4, by omega, by go_num, K5.out, NY2.out⟩
          case measure => simp [intOf]
      · have RES := hid (RK.out (kindR_4 NY.out))
        go_wp2_with fail
        go_ret
        exact ⟨ret_i8 RES.out, KW.out⟩
  · have hm' : mayS c l s = false := by simpa using hm
    have KR : Hid ((2 : Int) = kindS T c l s) := hid (by simp [kindS, hm])
    rw [hm'] at MA
    go_enter Try.func43, Try.ntmps43
    go_wp2_with (first | (go_at_call 49; refine (MA.out _).mono ?_; rintro e w1 ⟨rfl, k1⟩; have K1 := hid (KA.out.trans k1); clear k1) | fail)
    go_ret
    exact ⟨ret_i8 KR.out, K1.out⟩
end Go.Proofs.Ytkfebgbgnpdgpaa
