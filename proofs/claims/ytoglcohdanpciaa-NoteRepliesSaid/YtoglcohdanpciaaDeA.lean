/- delta: deltas are compared; what may be. -/
import Derived.Test.YtoglcohdanpciaaJB2
namespace Go.Proofs.Ytoglcohdanpciaa
open Go.RowKit Go.Shelf
set_option maxRecDepth 100000
set_option linter.unusedSimpArgs false

def eqD (a b : Dl) : Bool := a.d == b.d && a.i == b.i && a.b == b.b && a.s == b.s && eqP a.t b.t && eqP a.o b.o
theorem eqD_is {a b : Dl} : eqD a b = true ↔ a = b := by
  obtain ⟨a1, a2, a3, a4, a5, a6⟩ := a
  obtain ⟨b1, b2, b3, b4, b5, b6⟩ := b
  simp [eqD, eqP_is, and_assoc]
def dZ : Dl := ⟨0, 0, 0, 0, pZ, pZ⟩
/-- Has the delta nothing that its kind has no use for? -/
def kindD (x : Dl) : Bool := if x.d = 1 then zB x.o else if x.d = 2 then zB x.t && zB x.o && x.b == 0 else if x.d = 3 then x.s == 0 else false
/-- May the delta be? -/
def mayL (x : Dl) : Bool := btw x.i 2 128 && btw x.b 0 63 && btw x.s 0 4096 && mayP x.t && mayP x.o && kindD x

theorem eqPt9 (w : World) (a b : Pt) : (Op.equalIn 9999 147 (ptV a) (ptV b)).run Try.prog w = .ok (eqP a b) w := by
  have f1 : Try.prog.underlying 147 = some (.struct (Try.prog.fieldsOf 147)) := by kernel_rfl
  have f2 : Try.prog.underlying 30 = some (.struct (Try.prog.fieldsOf 30)) := by kernel_rfl
  have p1 : ∀ (z : Pt) w, (part 30 #[.int .i64 z.c, .int .i64 z.l, .int .i64 z.n, .int .i64 z.a, .int .i64 z.k] 0).run Try.prog w = .ok (.agg #[.int .i64 z.c, .int .i64 z.l, .int .i64 z.n]) w := fun z w => by kernel_rfl
  have p3 : ∀ (z : Pt) w, (part 3 #[.int .i64 z.c, .int .i64 z.l, .int .i64 z.n, .int .i64 z.a, .int .i64 z.k] 3).run Try.prog w = .ok (.int .i64 z.a) w := fun z w => by kernel_rfl
  have p4 : ∀ (z : Pt) w, (part 3 #[.int .i64 z.c, .int .i64 z.l, .int .i64 z.n, .int .i64 z.a, .int .i64 z.k] 4).run Try.prog w = .ok (.int .i64 z.k) w := fun z w => by kernel_rfl
  have q : ∀ (x y z : Int), (∀ w, (part 3 #[.int .i64 x, .int .i64 y, .int .i64 z] 0).run Try.prog w = .ok (.int .i64 x) w) ∧ (∀ w, (part 3 #[.int .i64 x, .int .i64 y, .int .i64 z] 1).run Try.prog w = .ok (.int .i64 y) w) ∧ (∀ w, (part 3 #[.int .i64 x, .int .i64 y, .int .i64 z] 2).run Try.prog w = .ok (.int .i64 z) w) := fun x y z => ⟨fun w => by kernel_rfl, fun w => by kernel_rfl, fun w => by kernel_rfl⟩
  have u : Try.prog.underlying 3 = some (.int .i64) := by kernel_rfl
  have i : ∀ (d : Nat) (x y : Int) (w : World), (Op.equalIn (d + 1) 3 (.int .i64 x) (.int .i64 y)).run Try.prog w = .ok (x == y) w := fun d x y w => run_equalIn_int w d 3 .i64 .i64 x y u
  have i8 : ∀ (x y : Int) (w : World), (Op.equalIn 9997 3 (.int .i64 x) (.int .i64 y)).run Try.prog w = .ok (x == y) w := i 9996
  have i9 : ∀ (x y : Int) (w : World), (Op.equalIn 9998 3 (.int .i64 x) (.int .i64 y)).run Try.prog w = .ok (x == y) w := i 9997
  have g1 : (Try.prog.fieldsOf 147).toList.map (fun f => (f.name != "_", f.type, f.offset)) = [(true, 30, 0), (true, 3, 3), (true, 3, 4)] := by kernel_rfl
  have g2 : (Try.prog.fieldsOf 30).toList.map (fun f => (f.name != "_", f.type, f.offset)) = [(true, 3, 0), (true, 3, 1), (true, 3, 2)] := by kernel_rfl
  have S : ∀ w, (Op.equalIn 9998 30 (.agg #[.int .i64 a.c, .int .i64 a.l, .int .i64 a.n]) (.agg #[.int .i64 b.c, .int .i64 b.l, .int .i64 b.n])).run Try.prog w = .ok (a.c == b.c && a.l == b.l && a.n == b.n) w := fun w => by
    rw [run_equalIn_agg w 9997 30 _ _ f2 (by kernel_rfl)]
    generalize (Try.prog.fieldsOf 30).toList = fs at g2 ⊢
    obtain ⟨x, y, z, rfl⟩ : ∃ x y z, fs = [x, y, z] := by
      have hl := congrArg List.length g2
      rw [List.length_map] at hl
      match fs, hl with
      | [x, y, z], _ => exact ⟨x, y, z, rfl⟩
    · clear g1
      simp only [List.map_cons, List.map_nil, List.cons.injEq, Prod.mk.injEq, and_true, bne_iff_ne] at g2
      obtain ⟨⟨n1, t1, o1⟩, ⟨n2, t2, o2⟩, n3, t3, o3⟩ := g2
      cases h1 : a.c == b.c <;> cases h2 : a.l == b.l <;> cases h3 : a.n == b.n <;>
        simp only [Op.eqFields, n1, n2, n3, t1, t2, t3, o1, o2, o3, (q _ _ _).1, (q _ _ _).2.1, (q _ _ _).2.2, i8, h1, h2, h3, if_true, if_false, Bool.not_true, Bool.not_false, Bool.false_eq_true, Sem.run_bind, Sem.run_ite, Sem.run_pure, Result.andThen_ok, ne_eq, not_false_eq_true, Bool.and_true, Bool.and_false, Bool.false_and, Bool.true_and]
  rw [← eqPts_is]
  unfold ptV Pt.cells
  rw [run_equalIn_agg w 9998 147 _ _ f1 (by kernel_rfl)]
  generalize (Try.prog.fieldsOf 147).toList = fs at g1 ⊢
  obtain ⟨x, y, v, rfl⟩ : ∃ x y v, fs = [x, y, v] := by
    have hl := congrArg List.length g1
    rw [List.length_map] at hl
    match fs, hl with
    | [x, y, v], _ => exact ⟨x, y, v, rfl⟩
  · clear g2
    simp only [List.map_cons, List.map_nil, List.cons.injEq, Prod.mk.injEq, and_true, bne_iff_ne] at g1
    obtain ⟨⟨n1, t1, o1⟩, ⟨n2, t2, o2⟩, n3, t3, o3⟩ := g1
    cases h1 : (a.c == b.c && a.l == b.l && a.n == b.n) <;> cases h2 : a.a == b.a <;> cases h3 : a.k == b.k <;>
      simp only [Op.eqFields, n1, n2, n3, t1, t2, t3, o1, o2, o3, p1, p3, p4, S, h1, h2, h3, i9, if_true, if_false, Bool.not_true, Bool.not_false, Bool.false_eq_true, Sem.run_bind, Sem.run_ite, Sem.run_pure, Result.andThen_ok, ne_eq, not_false_eq_true, Bool.and_true, Bool.and_false, Bool.false_and, Bool.true_and]

def dlA (x : Dl) : Array Value := #[.int .i64 x.d, .int .i64 x.i, .int .i64 x.b, .int .i64 x.s, .int .i64 x.t.c, .int .i64 x.t.l, .int .i64 x.t.n, .int .i64 x.t.a, .int .i64 x.t.k, .int .i64 x.o.c, .int .i64 x.o.l, .int .i64 x.o.n, .int .i64 x.o.a, .int .i64 x.o.k]
theorem dlA_is (x : Dl) : x.cells.toArray = dlA x := rfl
theorem eqDls (w : World) (a b : Dl) : (binOp .eql 149 (dlV a) (dlV b)).run Try.prog w = .ok (.bool (eqD a b)) w := by
  have f1 : Try.prog.underlying 149 = some (.struct (Try.prog.fieldsOf 149)) := by kernel_rfl
  have p0 : ∀ (z : Dl) w, (part 3 (dlA z) 0).run Try.prog w = .ok (.int .i64 z.d) w := fun z w => by kernel_rfl
  have p1 : ∀ (z : Dl) w, (part 3 (dlA z) 1).run Try.prog w = .ok (.int .i64 z.i) w := fun z w => by kernel_rfl
  have p2 : ∀ (z : Dl) w, (part 3 (dlA z) 2).run Try.prog w = .ok (.int .i64 z.b) w := fun z w => by kernel_rfl
  have p3 : ∀ (z : Dl) w, (part 3 (dlA z) 3).run Try.prog w = .ok (.int .i64 z.s) w := fun z w => by kernel_rfl
  have p4 : ∀ (z : Dl) w, (part 147 (dlA z) 4).run Try.prog w = .ok (ptV z.t) w := fun z w => by kernel_rfl
  have p5 : ∀ (z : Dl) w, (part 147 (dlA z) 9).run Try.prog w = .ok (ptV z.o) w := fun z w => by kernel_rfl
  have u : Try.prog.underlying 3 = some (.int .i64) := by kernel_rfl
  have i9 : ∀ (x y : Int) (w : World), (Op.equalIn 9999 3 (.int .i64 x) (.int .i64 y)).run Try.prog w = .ok (x == y) w := fun x y w => run_equalIn_int w 9998 3 .i64 .i64 x y u
  have g1 : (Try.prog.fieldsOf 149).toList.map (fun f => (f.name != "_", f.type, f.offset)) = [(true, 3, 0), (true, 3, 1), (true, 3, 2), (true, 3, 3), (true, 147, 4), (true, 147, 9)] := by kernel_rfl
  unfold dlV
  rw [dlA_is, dlA_is, run_eql_struct, run_equalIn_agg w 9999 149 _ _ f1 (by kernel_rfl)]
  generalize (Try.prog.fieldsOf 149).toList = fs at g1 ⊢
  obtain ⟨x1, x2, x3, x4, x5, x6, rfl⟩ : ∃ x1 x2 x3 x4 x5 x6, fs = [x1, x2, x3, x4, x5, x6] := by
    have hl := congrArg List.length g1
    rw [List.length_map] at hl
    match fs, hl with
    | [x1, x2, x3, x4, x5, x6], _ => exact ⟨x1, x2, x3, x4, x5, x6, rfl⟩
  simp only [List.map_cons, List.map_nil, List.cons.injEq, Prod.mk.injEq, and_true, bne_iff_ne] at g1
  obtain ⟨⟨n1, t1, o1⟩, ⟨n2, t2, o2⟩, ⟨n3, t3, o3⟩, ⟨n4, t4, o4⟩, ⟨n5, t5, o5⟩, n6, t6, o6⟩ := g1
  unfold eqD
  cases h1 : a.d == b.d with
  | false => simp only [Op.eqFields, n1, t1, o1, p0, i9, h1, if_true, if_false, Bool.not_true, Bool.not_false, Bool.false_eq_true, Sem.run_bind, Sem.run_ite, Sem.run_pure, Result.andThen_ok, ne_eq, not_false_eq_true, Bool.and_true, Bool.and_false, Bool.false_and, Bool.true_and]
  | true =>
    cases h2 : a.i == b.i with
    | false => simp only [Op.eqFields, n1, t1, o1, n2, t2, o2, p0, p1, i9, h1, h2, if_true, if_false, Bool.not_true, Bool.not_false, Bool.false_eq_true, Sem.run_bind, Sem.run_ite, Sem.run_pure, Result.andThen_ok, ne_eq, not_false_eq_true, Bool.and_true, Bool.and_false, Bool.false_and, Bool.true_and]
    | true =>
      cases h3 : a.b == b.b with
      | false => simp only [Op.eqFields, n1, t1, o1, n2, t2, o2, n3, t3, o3, p0, p1, p2, i9, h1, h2, h3, if_true, if_false, Bool.not_true, Bool.not_false, Bool.false_eq_true, Sem.run_bind, Sem.run_ite, Sem.run_pure, Result.andThen_ok, ne_eq, not_false_eq_true, Bool.and_true, Bool.and_false, Bool.false_and, Bool.true_and]
      | true =>
        cases h4 : a.s == b.s <;> cases h5 : eqP a.t b.t <;> cases h6 : eqP a.o b.o <;>
          simp only [Op.eqFields, n1, t1, o1, n2, t2, o2, n3, t3, o3, n4, t4, o4, n5, t5, o5, n6, t6, o6, p0, p1, p2, p3, p4, p5, i9, eqPt9, h1, h2, h3, h4, h5, h6, if_true, if_false, Bool.not_true, Bool.not_false, Bool.false_eq_true, Sem.run_bind, Sem.run_ite, Sem.run_pure, Result.andThen_ok, ne_eq, not_false_eq_true, Bool.and_true, Bool.and_false, Bool.false_and, Bool.true_and]
theorem guardDl (w : World) (op : BinOp) (x y : Operand) (a b : Dl) : (eqGuard op 149 x y (dlV a) (dlV b)).run Try.prog w = .ok () w := run_eqGuard_agg w op 149 x y _ _ (by kernel_rfl)
theorem exec_eqDl {ρ : Operand → Value} {o : Oper} {w : World} (x y : Operand) (u : TypeId) (a b : Dl) (ho : o.op = .binOp .eql 149 x y u) (hx : ρ x = dlV a) (hy : ρ y = dlV b) : (execOp ρ o).run Try.prog w = .ok (.value (.bool (eqD a b))) w := by
  have hg := guardDl w .eql x y a b
  simp only [execOp, ho, hx, hy, Sem.run_bind, hg, eqDls, Result.andThen_ok, Sem.run_pure]
theorem exec_neqDl {ρ : Operand → Value} {o : Oper} {w : World} (x y : Operand) (u : TypeId) (a b : Dl) (ho : o.op = .binOp .neq 149 x y u) (hx : ρ x = dlV a) (hy : ρ y = dlV b) : (execOp ρ o).run Try.prog w = .ok (.value (.bool (!eqD a b))) w := by
  have hg := guardDl w .neq x y a b
  have hr := eqDls w a b
  unfold dlV at hr
  rw [run_eql_struct] at hr
  have hn : (binOp .neq 149 (dlV a) (dlV b)).run Try.prog w = .ok (.bool (!eqD a b)) w := by
    unfold dlV
    rw [run_neq_struct]
    cases hq : (Op.equalIn 10000 149 (.agg a.cells.toArray) (.agg b.cells.toArray)).run Try.prog w with
    | ok x w' =>
      rw [hq] at hr
      simp [Result.andThen] at hr ⊢
      exact ⟨by rw [hr.1], hr.2⟩
    | _ => rw [hq] at hr; simp [Result.andThen] at hr
  simp only [execOp, ho, hx, hy, Sem.run_bind, hg, hn, Result.andThen_ok, Sem.run_pure]
theorem buildDlZ (w : World) : (Instr.build 149 #[]).run Try.prog w = .ok (dlV dZ) w := by kernel_rfl
theorem exec_buildDlZ {ρ : Operand → Value} {o : Oper} {w : World} (ho : o.op = .build 149 #[]) : (execOp ρ o).run Try.prog w = .ok (.value (dlV dZ)) w := by
  simp only [execOp, ho, List.map_toArray, List.map_nil, Sem.run_bind, buildDlZ, Result.andThen_ok, Sem.run_pure]
theorem dcells_one (x : Dl) : x.cells.toArray.all (·.oneCell') = true := by simp [Dl.cells, Pt.cells, Value.oneCell']
theorem dwithin_as (w : World) (x lo hi : Int) (b : Bool) (h : btw x lo hi = b) : Calls Try.prog 191 #[.int .i64 x, .int .i64 lo, .int .i64 hi] w fun e w' => e = .returned (.bool b) ∧ w = w' := by
  subst h
  unfold btw
  by_cases h0 : lo ≤ x
  · by_cases h1 : x ≤ hi
    · go_enter Try.func191, Try.ntmps191
      go_wp2_with fail
      go_ret
      exact ⟨by simp [h0, h1], rfl⟩
    · go_enter Try.func191, Try.ntmps191
      go_wp2_with fail
      go_ret
      exact ⟨by simp [h1], rfl⟩
  · go_enter Try.func191, Try.ntmps191
    go_wp2_with fail
    go_ret
    exact ⟨by simp; omega, rfl⟩
end Go.Proofs.Ytoglcohdanpciaa
