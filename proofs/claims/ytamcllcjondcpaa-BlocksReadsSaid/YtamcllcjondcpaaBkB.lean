/- blocks: pointers are compared; isZero, within, May. -/
import Derived.Test.YtamcllcjondcpaaBkA
import Derived.Laws.StructEq
import Derived.Deep.MidRow
import Derived.Shelf.SlicesQ.Contains
namespace Go.Proofs.Ytamcllcjondcpaa
open Go.RowKit Go.Shelf
set_option maxRecDepth 100000
set_option linter.unusedSimpArgs false

def eqP (a b : Pt) : Bool := decide (a = b)
def zB (x : Pt) : Bool := decide (x = pZ)
def btw (x lo hi : Int) : Bool := decide (lo ≤ x) && decide (x ≤ hi)
/-- May the pointer be? -/
def mayP (x : Pt) : Bool := zB x || (btw x.c 0 4 && btw x.l 0 1048576 && btw x.n 0 1073741824 && btw x.a 0 5999 && btw x.k 1 (min 64 (6000 - x.a)))
theorem btw_is {x lo hi : Int} : btw x lo hi = true ↔ lo ≤ x ∧ x ≤ hi := by simp [btw]
theorem zB_is {x : Pt} : zB x = true ↔ x = pZ := by simp [zB]

theorem eqPts (w : World) (a b : Pt) : (binOp .eql 47 (ptV a) (ptV b)).run Try.prog w = .ok (.bool (a.c == b.c && a.l == b.l && a.n == b.n && a.a == b.a && a.k == b.k)) w := by
  have f1 : Try.prog.underlying 47 = some (.struct (Try.prog.fieldsOf 47)) := by kernel_rfl
  have f2 : Try.prog.underlying 45 = some (.struct (Try.prog.fieldsOf 45)) := by kernel_rfl
  have p1 : ∀ (z : Pt) w, (part 45 #[.int .i64 z.c, .int .i64 z.l, .int .i64 z.n, .int .i64 z.a, .int .i64 z.k] 0).run Try.prog w = .ok (.agg #[.int .i64 z.c, .int .i64 z.l, .int .i64 z.n]) w := fun z w => by kernel_rfl
  have p3 : ∀ (z : Pt) w, (part 3 #[.int .i64 z.c, .int .i64 z.l, .int .i64 z.n, .int .i64 z.a, .int .i64 z.k] 3).run Try.prog w = .ok (.int .i64 z.a) w := fun z w => by kernel_rfl
  have p4 : ∀ (z : Pt) w, (part 3 #[.int .i64 z.c, .int .i64 z.l, .int .i64 z.n, .int .i64 z.a, .int .i64 z.k] 4).run Try.prog w = .ok (.int .i64 z.k) w := fun z w => by kernel_rfl
  have q : ∀ (x y z : Int), (∀ w, (part 3 #[.int .i64 x, .int .i64 y, .int .i64 z] 0).run Try.prog w = .ok (.int .i64 x) w) ∧ (∀ w, (part 3 #[.int .i64 x, .int .i64 y, .int .i64 z] 1).run Try.prog w = .ok (.int .i64 y) w) ∧ (∀ w, (part 3 #[.int .i64 x, .int .i64 y, .int .i64 z] 2).run Try.prog w = .ok (.int .i64 z) w) := fun x y z => ⟨fun w => by kernel_rfl, fun w => by kernel_rfl, fun w => by kernel_rfl⟩
  have u : Try.prog.underlying 3 = some (.int .i64) := by kernel_rfl
  have i : ∀ (d : Nat) (x y : Int) (w : World), (Op.equalIn (d + 1) 3 (.int .i64 x) (.int .i64 y)).run Try.prog w = .ok (x == y) w := fun d x y w => run_equalIn_int w d 3 .i64 .i64 x y u
  have i8 : ∀ (x y : Int) (w : World), (Op.equalIn 9998 3 (.int .i64 x) (.int .i64 y)).run Try.prog w = .ok (x == y) w := i 9997
  have i9 : ∀ (x y : Int) (w : World), (Op.equalIn 9999 3 (.int .i64 x) (.int .i64 y)).run Try.prog w = .ok (x == y) w := i 9998
  have g1 : (Try.prog.fieldsOf 47).toList.map (fun f => (f.name != "_", f.type, f.offset)) = [(true, 45, 0), (true, 3, 3), (true, 3, 4)] := by kernel_rfl
  have g2 : (Try.prog.fieldsOf 45).toList.map (fun f => (f.name != "_", f.type, f.offset)) = [(true, 3, 0), (true, 3, 1), (true, 3, 2)] := by kernel_rfl
  have S : ∀ w, (Op.equalIn 9999 45 (.agg #[.int .i64 a.c, .int .i64 a.l, .int .i64 a.n]) (.agg #[.int .i64 b.c, .int .i64 b.l, .int .i64 b.n])).run Try.prog w = .ok (a.c == b.c && a.l == b.l && a.n == b.n) w := fun w => by
    rw [run_equalIn_agg w 9998 45 _ _ f2 (by kernel_rfl)]
    generalize (Try.prog.fieldsOf 45).toList = fs at g2 ⊢
    obtain ⟨x, y, z, rfl⟩ : ∃ x y z, fs = [x, y, z] := by
      have hl := congrArg List.length g2
      rw [List.length_map] at hl
      match fs, hl with
      | [x, y, z], _ => exact ⟨x, y, z, rfl⟩
    · clear g1
      simp only [List.map_cons, List.map_nil, List.cons.injEq, Prod.mk.injEq, and_true, bne_iff_ne] at g2
      obtain ⟨⟨n1, t1, o1⟩, ⟨n2, t2, o2⟩, n3, t3, o3⟩ := g2
      cases h1 : a.c == b.c <;> cases h2 : a.l == b.l <;> cases h3 : a.n == b.n <;>
        simp only [Op.eqFields, n1, n2, n3, t1, t2, t3, o1, o2, o3, (q _ _ _).1, (q _ _ _).2.1, (q _ _ _).2.2, i8, h1, h2, h3, if_true, if_false, Bool.not_true, Bool.not_false, Bool.false_eq_true, Sem.run_bind, Sem.run_ite, Sem.run_pure, Result.andThen_ok, ne_eq, not_false_eq_true, Bool.and_true, Bool.and_false, Bool.false_and, Bool.true_and]
  unfold ptV Pt.cells
  rw [run_eql_struct, run_equalIn_agg w 9999 47 _ _ f1 (by kernel_rfl)]
  generalize (Try.prog.fieldsOf 47).toList = fs at g1 ⊢
  obtain ⟨x, y, v, rfl⟩ : ∃ x y v, fs = [x, y, v] := by
    have hl := congrArg List.length g1
    rw [List.length_map] at hl
    match fs, hl with
    | [x, y, v], _ => exact ⟨x, y, v, rfl⟩
  · clear g2
    simp only [List.map_cons, List.map_nil, List.cons.injEq, Prod.mk.injEq, and_true, bne_iff_ne] at g1
    obtain ⟨⟨n1, t1, o1⟩, ⟨n2, t2, o2⟩, n3, t3, o3⟩ := g1
    cases h1 : (a.c == b.c && a.l == b.l && a.n == b.n) <;> cases h2 : a.a == b.a <;> cases h3 : a.k == b.k <;>
      simp only [Op.eqFields, n1, n2, n3, t1, t2, t3, o1, o2, o3, p1, p3, p4, S, h1, h2, h3, i9, if_true, if_false, Bool.not_true, Bool.not_false, Bool.false_eq_true, Sem.run_bind, Sem.run_ite, Sem.run_pure, Result.andThen_ok, ne_eq, not_false_eq_true, Bool.and_true, Bool.and_false, Bool.false_and, Bool.true_and]
theorem eqPts_is (a b : Pt) : (a.c == b.c && a.l == b.l && a.n == b.n && a.a == b.a && a.k == b.k) = eqP a b := by
  obtain ⟨a1, a2, a3, a4, a5⟩ := a
  obtain ⟨b1, b2, b3, b4, b5⟩ := b
  unfold eqP
  simp only [Pt.mk.injEq]
  rw [Bool.eq_iff_iff]
  simp [and_assoc]
theorem guardPt (w : World) (op : BinOp) (x y : Operand) (a b : Pt) : (eqGuard op 47 x y (ptV a) (ptV b)).run Try.prog w = .ok () w := run_eqGuard_agg w op 47 x y _ _ (by kernel_rfl)
theorem exec_eqPts {ρ : Operand → Value} {o : Oper} {w : World} (x y : Operand) (u : TypeId) (a b : Pt) (ho : o.op = .binOp .eql 47 x y u) (hx : ρ x = ptV a) (hy : ρ y = ptV b) : (execOp ρ o).run Try.prog w = .ok (.value (.bool (eqP a b))) w := by
  have hg := guardPt w .eql x y a b
  simp only [execOp, ho, hx, hy, Sem.run_bind, hg, eqPts, eqPts_is, Result.andThen_ok, Sem.run_pure]
theorem exec_neqPts {ρ : Operand → Value} {o : Oper} {w : World} (x y : Operand) (u : TypeId) (a b : Pt) (ho : o.op = .binOp .neq 47 x y u) (hx : ρ x = ptV a) (hy : ρ y = ptV b) : (execOp ρ o).run Try.prog w = .ok (.value (.bool (!eqP a b))) w := by
  have hg := guardPt w .neq x y a b
  have hr := eqPts w a b
  unfold ptV at hr
  rw [run_eql_struct] at hr
  have hn : (binOp .neq 47 (ptV a) (ptV b)).run Try.prog w = .ok (.bool (!eqP a b)) w := by
    unfold ptV
    rw [run_neq_struct]
    cases hq : (Op.equalIn 10000 47 (.agg a.cells.toArray) (.agg b.cells.toArray)).run Try.prog w with
    | ok x w' =>
      rw [hq] at hr
      simp [Result.andThen] at hr ⊢
      rw [← eqPts_is]
      exact ⟨by rw [hr.1], hr.2⟩
    | _ => rw [hq] at hr; simp [Result.andThen] at hr
  simp only [execOp, ho, hx, hy, Sem.run_bind, hg, hn, Result.andThen_ok, Sem.run_pure]
theorem eqlAtPt : EqlAt Try.prog 47 (fun x : Pt => .agg x.cells.toArray) eqP := ⟨fun x y w => by have := eqPts w x y; rw [eqPts_is] at this; exact this, fun op a b x y w => guardPt w op a b x y⟩

theorem loadPt_run (W : World) (b off : Nat) (x : Pt) (hc : W.rangeAt b off x.cells) : (Instr.loadAt 47 (.pointer (some ⟨b, off, none⟩))).run Try.prog W = .ok (ptV x) W :=
  run_loadAt_mid W b off 47 x.cells _ hc uPtr rfl (by rw [sPtr]; rfl)
theorem buildPtZ (w : World) : (Instr.build 47 #[]).run Try.prog w = .ok (ptV pZ) w := by kernel_rfl
theorem exec_buildPtZ {ρ : Operand → Value} {o : Oper} {w : World} (ho : o.op = .build 47 #[]) : (execOp ρ o).run Try.prog w = .ok (.value (ptV pZ)) w := by
  simp only [execOp, ho, List.map_toArray, List.map_nil, Sem.run_bind, buildPtZ, Result.andThen_ok, Sem.run_pure]
section
variable {ops : Array Oper} {rest : List Oper} {o : Oper} {a : Act} {w : World} {Q : Exit → Act → World → Prop}
theorem wpList_loadPt (hgd : o.guard = none) (x : Operand) (ho : o.op = .load 47 x) (b off : Nat) (hx : a.eval x = .pointer (some ⟨b, off, none⟩)) (t : Pt) (hc : w.rangeAt b off t.cells)
    (hk : wpList Try.prog ops Q rest (a.put o.dst (ptV t)) w) : wpList Try.prog ops Q (o :: rest) a w :=
  wpList_load_mid hgd _ x ho b off hx t.cells _ hc uPtr rfl (by rw [sPtr]; rfl) hk
theorem wpList_boxPt (hgd : o.guard = none) (x : Operand) (ho : o.op = .box 47 x) (t : Pt) (hx : a.eval x = ptV t)
    (hk : wpList Try.prog ops Q rest (a.put o.dst (.pointer (some ⟨w.heap.size, 0, none⟩))) (w.alloc (.cells t.cells.toArray 47))) : wpList Try.prog ops Q (o :: rest) a w :=
  wpList_is hgd _ _ (exec_box 47 x _ hx ho) hk
end
theorem range_new (w : World) (cs : List Value) (T : TypeId) : (w.alloc (.cells cs.toArray T)).rangeAt w.heap.size 0 cs := fun j v hv => by
  rw [Nat.zero_add, cell_of_row _ _ j _ _ (0, 0) (heap_alloc_new w _)]
  simpa using hv
theorem range_keep {w w' : World} {S : List Nat} {b off : Nat} {cs : List Value} (h : w.rangeAt b off cs) (k : Keeps S w w') (hs : b ∉ S) : w'.rangeAt b off cs := fun j v hv => k.cell' (h j v hv) hs
theorem range_at {w : World} {b off : Nat} {x : Pt} (h : w.rangeAt b off x.cells) : w.cell? ⟨b, off, none⟩ = some (.int .i64 x.c) ∧ w.cell? ⟨b, off + 1, none⟩ = some (.int .i64 x.l) ∧ w.cell? ⟨b, off + 2, none⟩ = some (.int .i64 x.n) ∧ w.cell? ⟨b, off + 3, none⟩ = some (.int .i64 x.a) ∧ w.cell? ⟨b, off + 4, none⟩ = some (.int .i64 x.k) :=
  ⟨h 0 _ rfl, h 1 _ rfl, h 2 _ rfl, h 3 _ rfl, h 4 _ rfl⟩

theorem isZero_any (w : World) (x : Pt) : Calls Try.prog 76 #[ptV x] w fun e w' => e = .returned (.bool (zB x)) ∧ Keeps [] w w' := by
  have HR := hid (range_new w x.cells 47)
  go_enter Try.func76, Try.ntmps76
  go_wp2_with (first | (refine wpList_boxPt rfl _ rfl x rfl ?_) | (refine wpList_loadPt rfl _ rfl w.heap.size 0 rfl x HR.out ?_) | (refine wpList_is rfl _ _ (exec_buildPtZ rfl) ?_) | (refine wpList_is rfl _ _ (exec_eqPts _ _ _ x pZ rfl rfl rfl) ?_) | fail)
  go_ret
  exact ⟨rfl, (Keeps.refl [] w).alloc _⟩

theorem bwithin_as (w : World) (x lo hi : Int) (b : Bool) (h : btw x lo hi = b) : Calls Try.prog 77 #[.int .i64 x, .int .i64 lo, .int .i64 hi] w fun e w' => e = .returned (.bool b) ∧ w = w' := by
  subst h
  unfold btw
  by_cases h0 : lo ≤ x
  · by_cases h1 : x ≤ hi
    · go_enter Try.func77, Try.ntmps77
      go_wp2_with fail
      go_ret
      exact ⟨by simp [h0, h1], rfl⟩
    · go_enter Try.func77, Try.ntmps77
      go_wp2_with fail
      go_ret
      exact ⟨by simp [h1], rfl⟩
  · go_enter Try.func77, Try.ntmps77
    go_wp2_with fail
    go_ret
    exact ⟨by simp; omega, rfl⟩
end Go.Proofs.Ytamcllcjondcpaa
