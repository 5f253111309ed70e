/- DeA, DeB, DeE, DeF, DeG, DeC, DeH, DeD. -/
import Derived.Test.YtamcllcjondcpaaBkI
import Derived.Test.YtamcllcjondcpaaBkO
import Derived.Test.YtamcllcjondcpaaBkEc
import Derived.Test.YtamcllcjondcpaaBkP
import Derived.Test.YtamcllcjondcpaaBkQ
/- delta: deltas are compared; what may be. -/
namespace Go.Proofs.Ytamcllcjondcpaa
open Go.RowKit Go.Shelf
set_option maxRecDepth 100000
set_option linter.unusedSimpArgs false

def eqD (a b : Dl) : Bool := a.d == b.d && a.i == b.i && a.b == b.b && a.s == b.s && eqP a.t b.t && eqP a.o b.o
theorem eqD_is {a b : Dl} : eqD a b = true ↔ a = b := by
  obtain ⟨a1, a2, a3, a4, a5, a6⟩ := a
  obtain ⟨b1, b2, b3, b4, b5, b6⟩ := b
  simp [eqD, eqP_is, and_assoc]
def dZ : Dl := ⟨0, 0, 0, 0, pZ, pZ⟩
/-- Has the delta nothing that its kind has no use for? -/
def kindD (x : Dl) : Bool := if x.d = 1 then zB x.o else if x.d = 2 then zB x.t && zB x.o && x.b == 0 else if x.d = 3 then x.s == 0 else false
/-- May the delta be? -/
def mayL (x : Dl) : Bool := btw x.i 2 128 && btw x.b 0 63 && btw x.s 0 4096 && mayP x.t && mayP x.o && kindD x

theorem eqPt9 (w : World) (a b : Pt) : (Op.equalIn 9999 47 (ptV a) (ptV b)).run Try.prog w = .ok (eqP a b) w := by
  have f1 : Try.prog.underlying 47 = some (.struct (Try.prog.fieldsOf 47)) := by kernel_rfl
  have f2 : Try.prog.underlying 45 = some (.struct (Try.prog.fieldsOf 45)) := by kernel_rfl
  have p1 : ∀ (z : Pt) w, (part 45 #[.int .i64 z.c, .int .i64 z.l, .int .i64 z.n, .int .i64 z.a, .int .i64 z.k] 0).run Try.prog w = .ok (.agg #[.int .i64 z.c, .int .i64 z.l, .int .i64 z.n]) w := fun z w => by kernel_rfl
  have p3 : ∀ (z : Pt) w, (part 3 #[.int .i64 z.c, .int .i64 z.l, .int .i64 z.n, .int .i64 z.a, .int .i64 z.k] 3).run Try.prog w = .ok (.int .i64 z.a) w := fun z w => by kernel_rfl
  have p4 : ∀ (z : Pt) w, (part 3 #[.int .i64 z.c, .int .i64 z.l, .int .i64 z.n, .int .i64 z.a, .int .i64 z.k] 4).run Try.prog w = .ok (.int .i64 z.k) w := fun z w => by kernel_rfl
  have q : ∀ (x y z : Int), (∀ w, (part 3 #[.int .i64 x, .int .i64 y, .int .i64 z] 0).run Try.prog w = .ok (.int .i64 x) w) ∧ (∀ w, (part 3 #[.int .i64 x, .int .i64 y, .int .i64 z] 1).run Try.prog w = .ok (.int .i64 y) w) ∧ (∀ w, (part 3 #[.int .i64 x, .int .i64 y, .int .i64 z] 2).run Try.prog w = .ok (.int .i64 z) w) := fun x y z => ⟨fun w => by kernel_rfl, fun w => by kernel_rfl, fun w => by kernel_rfl⟩
  have u : Try.prog.underlying 3 = some (.int .i64) := by kernel_rfl
  have i : ∀ (d : Nat) (x y : Int) (w : World), (Op.equalIn (d + 1) 3 (.int .i64 x) (.int .i64 y)).run Try.prog w = .ok (x == y) w := fun d x y w => run_equalIn_int w d 3 .i64 .i64 x y u
  have i8 : ∀ (x y : Int) (w : World), (Op.equalIn 9997 3 (.int .i64 x) (.int .i64 y)).run Try.prog w = .ok (x == y) w := i 9996
  have i9 : ∀ (x y : Int) (w : World), (Op.equalIn 9998 3 (.int .i64 x) (.int .i64 y)).run Try.prog w = .ok (x == y) w := i 9997
  have g1 : (Try.prog.fieldsOf 47).toList.map (fun f => (f.name != "_", f.type, f.offset)) = [(true, 45, 0), (true, 3, 3), (true, 3, 4)] := by kernel_rfl
  have g2 : (Try.prog.fieldsOf 45).toList.map (fun f => (f.name != "_", f.type, f.offset)) = [(true, 3, 0), (true, 3, 1), (true, 3, 2)] := by kernel_rfl
  have S : ∀ w, (Op.equalIn 9998 45 (.agg #[.int .i64 a.c, .int .i64 a.l, .int .i64 a.n]) (.agg #[.int .i64 b.c, .int .i64 b.l, .int .i64 b.n])).run Try.prog w = .ok (a.c == b.c && a.l == b.l && a.n == b.n) w := fun w => by
    rw [run_equalIn_agg w 9997 45 _ _ f2 (by kernel_rfl)]
    generalize (Try.prog.fieldsOf 45).toList = fs at g2 ⊢
    obtain ⟨x, y, z, rfl⟩ : ∃ x y z, fs = [x, y, z] := by
      have hl := congrArg List.length g2
      rw [List.length_map] at hl
      match fs, hl with
      | [x, y, z], _ => exact ⟨x, y, z, rfl⟩
    · clear g1
      simp only [List.map_cons, List.map_nil, List.cons.injEq, Prod.mk.injEq, and_true, bne_iff_ne] at g2
      obtain ⟨⟨n1, t1, o1⟩, ⟨n2, t2, o2⟩, n3, t3, o3⟩ := g2
      cases h1 : a.c == b.c <;> cases h2 : a.l == b.l <;> cases h3 : a.n == b.n <;>
        simp only [Op.eqFields, n1, n2, n3, t1, t2, t3, o1, o2, o3, (q _ _ _).1, (q _ _ _).2.1, (q _ _ _).2.2, i8, h1, h2, h3, if_true, if_false, Bool.not_true, Bool.not_false, Bool.false_eq_true, Sem.run_bind, Sem.run_ite, Sem.run_pure, Result.andThen_ok, ne_eq, not_false_eq_true, Bool.and_true, Bool.and_false, Bool.false_and, Bool.true_and]
  rw [← eqPts_is]
  unfold ptV Pt.cells
  rw [run_equalIn_agg w 9998 47 _ _ f1 (by kernel_rfl)]
  generalize (Try.prog.fieldsOf 47).toList = fs at g1 ⊢
  obtain ⟨x, y, v, rfl⟩ : ∃ x y v, fs = [x, y, v] := by
    have hl := congrArg List.length g1
    rw [List.length_map] at hl
    match fs, hl with
    | [x, y, v], _ => exact ⟨x, y, v, rfl⟩
  · clear g2
    simp only [List.map_cons, List.map_nil, List.cons.injEq, Prod.mk.injEq, and_true, bne_iff_ne] at g1
    obtain ⟨⟨n1, t1, o1⟩, ⟨n2, t2, o2⟩, n3, t3, o3⟩ := g1
    cases h1 : (a.c == b.c && a.l == b.l && a.n == b.n) <;> cases h2 : a.a == b.a <;> cases h3 : a.k == b.k <;>
      simp only [Op.eqFields, n1, n2, n3, t1, t2, t3, o1, o2, o3, p1, p3, p4, S, h1, h2, h3, i9, if_true, if_false, Bool.not_true, Bool.not_false, Bool.false_eq_true, Sem.run_bind, Sem.run_ite, Sem.run_pure, Result.andThen_ok, ne_eq, not_false_eq_true, Bool.and_true, Bool.and_false, Bool.false_and, Bool.true_and]

def dlA (x : Dl) : Array Value := #[.int .i64 x.d, .int .i64 x.i, .int .i64 x.b, .int .i64 x.s, .int .i64 x.t.c, .int .i64 x.t.l, .int .i64 x.t.n, .int .i64 x.t.a, .int .i64 x.t.k, .int .i64 x.o.c, .int .i64 x.o.l, .int .i64 x.o.n, .int .i64 x.o.a, .int .i64 x.o.k]
theorem dlA_is (x : Dl) : x.cells.toArray = dlA x := rfl
theorem eqDls (w : World) (a b : Dl) : (binOp .eql 49 (dlV a) (dlV b)).run Try.prog w = .ok (.bool (eqD a b)) w := by
  have f1 : Try.prog.underlying 49 = some (.struct (Try.prog.fieldsOf 49)) := by kernel_rfl
  have p0 : ∀ (z : Dl) w, (part 3 (dlA z) 0).run Try.prog w = .ok (.int .i64 z.d) w := fun z w => by kernel_rfl
  have p1 : ∀ (z : Dl) w, (part 3 (dlA z) 1).run Try.prog w = .ok (.int .i64 z.i) w := fun z w => by kernel_rfl
  have p2 : ∀ (z : Dl) w, (part 3 (dlA z) 2).run Try.prog w = .ok (.int .i64 z.b) w := fun z w => by kernel_rfl
  have p3 : ∀ (z : Dl) w, (part 3 (dlA z) 3).run Try.prog w = .ok (.int .i64 z.s) w := fun z w => by kernel_rfl
  have p4 : ∀ (z : Dl) w, (part 47 (dlA z) 4).run Try.prog w = .ok (ptV z.t) w := fun z w => by kernel_rfl
  have p5 : ∀ (z : Dl) w, (part 47 (dlA z) 9).run Try.prog w = .ok (ptV z.o) w := fun z w => by kernel_rfl
  have u : Try.prog.underlying 3 = some (.int .i64) := by kernel_rfl
  have i9 : ∀ (x y : Int) (w : World), (Op.equalIn 9999 3 (.int .i64 x) (.int .i64 y)).run Try.prog w = .ok (x == y) w := fun x y w => run_equalIn_int w 9998 3 .i64 .i64 x y u
  have g1 : (Try.prog.fieldsOf 49).toList.map (fun f => (f.name != "_", f.type, f.offset)) = [(true, 3, 0), (true, 3, 1), (true, 3, 2), (true, 3, 3), (true, 47, 4), (true, 47, 9)] := by kernel_rfl
  unfold dlV
  rw [dlA_is, dlA_is, run_eql_struct, run_equalIn_agg w 9999 49 _ _ f1 (by kernel_rfl)]
  generalize (Try.prog.fieldsOf 49).toList = fs at g1 ⊢
  obtain ⟨x1, x2, x3, x4, x5, x6, rfl⟩ : ∃ x1 x2 x3 x4 x5 x6, fs = [x1, x2, x3, x4, x5, x6] := by
    have hl := congrArg List.length g1
    rw [List.length_map] at hl
    match fs, hl with
    | [x1, x2, x3, x4, x5, x6], _ => exact ⟨x1, x2, x3, x4, x5, x6, rfl⟩
  simp only [List.map_cons, List.map_nil, List.cons.injEq, Prod.mk.injEq, and_true, bne_iff_ne] at g1
  obtain ⟨⟨n1, t1, o1⟩, ⟨n2, t2, o2⟩, ⟨n3, t3, o3⟩, ⟨n4, t4, o4⟩, ⟨n5, t5, o5⟩, n6, t6, o6⟩ := g1
  unfold eqD
  cases h1 : a.d == b.d with
  | false => simp only [Op.eqFields, n1, t1, o1, p0, i9, h1, if_true, if_false, Bool.not_true, Bool.not_false, Bool.false_eq_true, Sem.run_bind, Sem.run_ite, Sem.run_pure, Result.andThen_ok, ne_eq, not_false_eq_true, Bool.and_true, Bool.and_false, Bool.false_and, Bool.true_and]
  | true =>
    cases h2 : a.i == b.i with
    | false => simp only [Op.eqFields, n1, t1, o1, n2, t2, o2, p0, p1, i9, h1, h2, if_true, if_false, Bool.not_true, Bool.not_false, Bool.false_eq_true, Sem.run_bind, Sem.run_ite, Sem.run_pure, Result.andThen_ok, ne_eq, not_false_eq_true, Bool.and_true, Bool.and_false, Bool.false_and, Bool.true_and]
    | true =>
      cases h3 : a.b == b.b with
      | false => simp only [Op.eqFields, n1, t1, o1, n2, t2, o2, n3, t3, o3, p0, p1, p2, i9, h1, h2, h3, if_true, if_false, Bool.not_true, Bool.not_false, Bool.false_eq_true, Sem.run_bind, Sem.run_ite, Sem.run_pure, Result.andThen_ok, ne_eq, not_false_eq_true, Bool.and_true, Bool.and_false, Bool.false_and, Bool.true_and]
      | true =>
        cases h4 : a.s == b.s <;> cases h5 : eqP a.t b.t <;> cases h6 : eqP a.o b.o <;>
          simp only [Op.eqFields, n1, t1, o1, n2, t2, o2, n3, t3, o3, n4, t4, o4, n5, t5, o5, n6, t6, o6, p0, p1, p2, p3, p4, p5, i9, eqPt9, h1, h2, h3, h4, h5, h6, if_true, if_false, Bool.not_true, Bool.not_false, Bool.false_eq_true, Sem.run_bind, Sem.run_ite, Sem.run_pure, Result.andThen_ok, ne_eq, not_false_eq_true, Bool.and_true, Bool.and_false, Bool.false_and, Bool.true_and]
theorem guardDl (w : World) (op : BinOp) (x y : Operand) (a b : Dl) : (eqGuard op 49 x y (dlV a) (dlV b)).run Try.prog w = .ok () w := run_eqGuard_agg w op 49 x y _ _ (by kernel_rfl)
theorem exec_eqDl {ρ : Operand → Value} {o : Oper} {w : World} (x y : Operand) (u : TypeId) (a b : Dl) (ho : o.op = .binOp .eql 49 x y u) (hx : ρ x = dlV a) (hy : ρ y = dlV b) : (execOp ρ o).run Try.prog w = .ok (.value (.bool (eqD a b))) w := by
  have hg := guardDl w .eql x y a b
  simp only [execOp, ho, hx, hy, Sem.run_bind, hg, eqDls, Result.andThen_ok, Sem.run_pure]
theorem exec_neqDl {ρ : Operand → Value} {o : Oper} {w : World} (x y : Operand) (u : TypeId) (a b : Dl) (ho : o.op = .binOp .neq 49 x y u) (hx : ρ x = dlV a) (hy : ρ y = dlV b) : (execOp ρ o).run Try.prog w = .ok (.value (.bool (!eqD a b))) w := by
  have hg := guardDl w .neq x y a b
  have hr := eqDls w a b
  unfold dlV at hr
  rw [run_eql_struct] at hr
  have hn : (binOp .neq 49 (dlV a) (dlV b)).run Try.prog w = .ok (.bool (!eqD a b)) w := by
    unfold dlV
    rw [run_neq_struct]
    cases hq : (Op.equalIn 10000 49 (.agg a.cells.toArray) (.agg b.cells.toArray)).run Try.prog w with
    | ok x w' =>
      rw [hq] at hr
      simp [Result.andThen] at hr ⊢
      exact ⟨by rw [hr.1], hr.2⟩
    | _ => rw [hq] at hr; simp [Result.andThen] at hr
  simp only [execOp, ho, hx, hy, Sem.run_bind, hg, hn, Result.andThen_ok, Sem.run_pure]
theorem buildDlZ (w : World) : (Instr.build 49 #[]).run Try.prog w = .ok (dlV dZ) w := by kernel_rfl
theorem exec_buildDlZ {ρ : Operand → Value} {o : Oper} {w : World} (ho : o.op = .build 49 #[]) : (execOp ρ o).run Try.prog w = .ok (.value (dlV dZ)) w := by
  simp only [execOp, ho, List.map_toArray, List.map_nil, Sem.run_bind, buildDlZ, Result.andThen_ok, Sem.run_pure]
theorem dcells_one (x : Dl) : x.cells.toArray.all (·.oneCell') = true := by simp [Dl.cells, Pt.cells, Value.oneCell']
theorem dwithin_as (w : World) (x lo hi : Int) (b : Bool) (h : btw x lo hi = b) : Calls Try.prog 63 #[.int .i64 x, .int .i64 lo, .int .i64 hi] w fun e w' => e = .returned (.bool b) ∧ w = w' := by
  subst h
  unfold btw
  by_cases h0 : lo ≤ x
  · by_cases h1 : x ≤ hi
    · go_enter Try.func63, Try.ntmps63
      go_wp2_with fail
      go_ret
      exact ⟨by simp [h0, h1], rfl⟩
    · go_enter Try.func63, Try.ntmps63
      go_wp2_with fail
      go_ret
      exact ⟨by simp [h1], rfl⟩
  · go_enter Try.func63, Try.ntmps63
    go_wp2_with fail
    go_ret
    exact ⟨by simp; omega, rfl⟩
end Go.Proofs.Ytamcllcjondcpaa


/- delta: isOfItsKind, May, mayNot. -/
namespace Go.Proofs.Ytamcllcjondcpaa
open Go.RowKit Go.Shelf
set_option maxRecDepth 100000
set_option linter.unusedSimpArgs false

theorem retD {a b : Bool} {w w' : World} (h : b = a) (k : Keeps [] w w') : MayPost w a (.returned (.bool b)) w' := ⟨by rw [h], k⟩
set_option maxHeartbeats 6400000 in
theorem dKind_any (w : World) (x : Dl) : Calls Try.prog 64 #[dlV x] w (MayPost w (kindD x)) := by
  have ka : Keeps [] w (w.alloc (.cells x.cells.toArray 49)) := (Keeps.refl [] w).alloc _
  have kb : Keeps [] (w.alloc (.cells x.cells.toArray 49)) ((w.alloc (.cells x.cells.toArray 49)).alloc (.cells pZ.cells.toArray 47)) := (Keeps.refl [] _).alloc _
  have d2 := (dl_range (range_new w x.cells 49)).keep kb (by simp)
  have D2 := hid d2
  have rz := range_new (w.alloc (.cells x.cells.toArray 49)) pZ.cells 47
  rw [World.size_alloc] at rz
  have RZ := hid rz
  have KB := hid (ka.trans kb)
  have c0 := d2.c0
  have c2 := d2.c2
  have c3 := d2.c3
  simp only [Nat.zero_add] at c2 c3
  obtain ⟨r, hr⟩ : ∃ r, r = kindD x := ⟨_, rfl⟩
  rw [← hr]
  unfold kindD at hr
  have HR := hid hr
  clear ka kb d2 rz hr
  by_cases h1 : x.d = 1
  · have e1 : (x.d == 1) = true := by simpa using h1
    rw [if_pos h1] at HR
    clear h1 c2 c3
    go_enter Try.func64, Try.ntmps64
    go_wp2_with (first | go_big_skip | (refine wpList_is rfl _ _ (exec_box 49 _ x.cells.toArray rfl rfl) ?_) | (refine wpList_is rfl _ _ (exec_alloc 47 pZ.cells.toArray iPtr2 rfl) ?_) | (refine wpList_isW rfl _ _ (exec_load _ _ _ _ rfl rfl (loadPt_run _ w.heap.size (0 + 9) x.o D2.out.o)) ?_) | (refine wpList_isW rfl _ _ (exec_load _ _ _ _ rfl rfl (loadPt_run _ w.heap.size (0 + 4) x.t D2.out.t)) ?_) | (refine wpList_isW rfl _ _ (exec_load _ _ _ _ rfl rfl (loadPt_run _ (w.heap.size + 1) 0 pZ RZ.out)) ?_) | (refine wpList_isW rfl _ _ (exec_eqPts _ _ _ x.o pZ rfl rfl rfl) ?_) | (refine wpList_isW rfl _ _ (exec_eqPts _ _ _ x.t pZ rfl rfl rfl) ?_) | fail)
    go_ret
    exact retD HR.out.symm KB.out
  · have e1 : (x.d == 1) = false := by simpa using h1
    rw [if_neg h1] at HR
    clear h1
    by_cases h2 : x.d = 2
    · have e2 : (x.d == 2) = true := by simpa using h2
      rw [if_pos h2] at HR
      clear h2 c3
      cases a1 : eqP x.t pZ with
      | false =>
        have HR' := hid (show r = false from by rw [HR.out, show zB x.t = eqP x.t pZ from rfl, a1]; rfl)
        clear c2
        go_enter Try.func64, Try.ntmps64
        go_wp2_with (first | go_big_skip | (refine wpList_is rfl _ _ (exec_box 49 _ x.cells.toArray rfl rfl) ?_) | (refine wpList_is rfl _ _ (exec_alloc 47 pZ.cells.toArray iPtr2 rfl) ?_) | (refine wpList_isW rfl _ _ (exec_load _ _ _ _ rfl rfl (loadPt_run _ w.heap.size (0 + 9) x.o D2.out.o)) ?_) | (refine wpList_isW rfl _ _ (exec_load _ _ _ _ rfl rfl (loadPt_run _ w.heap.size (0 + 4) x.t D2.out.t)) ?_) | (refine wpList_isW rfl _ _ (exec_load _ _ _ _ rfl rfl (loadPt_run _ (w.heap.size + 1) 0 pZ RZ.out)) ?_) | (refine wpList_isW rfl _ _ (exec_eqPts _ _ _ x.o pZ rfl rfl rfl) ?_) | (refine wpList_isW rfl _ _ (exec_eqPts _ _ _ x.t pZ rfl rfl rfl) ?_) | fail)
        go_ret
        exact retD HR'.out.symm KB.out
      | true =>
        cases a2 : eqP x.o pZ with
        | false =>
          have HR' := hid (show r = false from by rw [HR.out, show zB x.o = eqP x.o pZ from rfl, a2]; simp)
          clear c2
          go_enter Try.func64, Try.ntmps64
          go_wp2_with (first | go_big_skip | (refine wpList_is rfl _ _ (exec_box 49 _ x.cells.toArray rfl rfl) ?_) | (refine wpList_is rfl _ _ (exec_alloc 47 pZ.cells.toArray iPtr2 rfl) ?_) | (refine wpList_isW rfl _ _ (exec_load _ _ _ _ rfl rfl (loadPt_run _ w.heap.size (0 + 9) x.o D2.out.o)) ?_) | (refine wpList_isW rfl _ _ (exec_load _ _ _ _ rfl rfl (loadPt_run _ w.heap.size (0 + 4) x.t D2.out.t)) ?_) | (refine wpList_isW rfl _ _ (exec_load _ _ _ _ rfl rfl (loadPt_run _ (w.heap.size + 1) 0 pZ RZ.out)) ?_) | (refine wpList_isW rfl _ _ (exec_eqPts _ _ _ x.o pZ rfl rfl rfl) ?_) | (refine wpList_isW rfl _ _ (exec_eqPts _ _ _ x.t pZ rfl rfl rfl) ?_) | fail)
          go_ret
          exact retD HR'.out.symm KB.out
        | true =>
          have HR' := hid (show r = (x.b == 0) from by rw [HR.out, show zB x.t = eqP x.t pZ from rfl, show zB x.o = eqP x.o pZ from rfl, a1, a2]; rfl)
          go_enter Try.func64, Try.ntmps64
          go_wp2_with (first | go_big_skip | (refine wpList_is rfl _ _ (exec_box 49 _ x.cells.toArray rfl rfl) ?_) | (refine wpList_is rfl _ _ (exec_alloc 47 pZ.cells.toArray iPtr2 rfl) ?_) | (refine wpList_isW rfl _ _ (exec_load _ _ _ _ rfl rfl (loadPt_run _ w.heap.size (0 + 9) x.o D2.out.o)) ?_) | (refine wpList_isW rfl _ _ (exec_load _ _ _ _ rfl rfl (loadPt_run _ w.heap.size (0 + 4) x.t D2.out.t)) ?_) | (refine wpList_isW rfl _ _ (exec_load _ _ _ _ rfl rfl (loadPt_run _ (w.heap.size + 1) 0 pZ RZ.out)) ?_) | (refine wpList_isW rfl _ _ (exec_eqPts _ _ _ x.o pZ rfl rfl rfl) ?_) | (refine wpList_isW rfl _ _ (exec_eqPts _ _ _ x.t pZ rfl rfl rfl) ?_) | fail)
          go_ret
          exact retD HR'.out.symm KB.out
    · have e2 : (x.d == 2) = false := by simpa using h2
      rw [if_neg h2] at HR
      clear h2 c2
      by_cases h3 : x.d = 3
      · have e3 : (x.d == 3) = true := by simpa using h3
        rw [if_pos h3] at HR
        clear h3
        go_enter Try.func64, Try.ntmps64
        go_wp2_with (first | go_big_skip | (refine wpList_is rfl _ _ (exec_box 49 _ x.cells.toArray rfl rfl) ?_) | (refine wpList_is rfl _ _ (exec_alloc 47 pZ.cells.toArray iPtr2 rfl) ?_) | (refine wpList_isW rfl _ _ (exec_load _ _ _ _ rfl rfl (loadPt_run _ w.heap.size (0 + 9) x.o D2.out.o)) ?_) | (refine wpList_isW rfl _ _ (exec_load _ _ _ _ rfl rfl (loadPt_run _ w.heap.size (0 + 4) x.t D2.out.t)) ?_) | (refine wpList_isW rfl _ _ (exec_load _ _ _ _ rfl rfl (loadPt_run _ (w.heap.size + 1) 0 pZ RZ.out)) ?_) | (refine wpList_isW rfl _ _ (exec_eqPts _ _ _ x.o pZ rfl rfl rfl) ?_) | (refine wpList_isW rfl _ _ (exec_eqPts _ _ _ x.t pZ rfl rfl rfl) ?_) | fail)
        go_ret
        exact retD HR.out.symm KB.out
      · have e3 : (x.d == 3) = false := by simpa using h3
        rw [if_neg h3] at HR
        clear h3 c3
        go_enter Try.func64, Try.ntmps64
        go_wp2_with (first | go_big_skip | (refine wpList_is rfl _ _ (exec_box 49 _ x.cells.toArray rfl rfl) ?_) | (refine wpList_is rfl _ _ (exec_alloc 47 pZ.cells.toArray iPtr2 rfl) ?_) | (refine wpList_isW rfl _ _ (exec_load _ _ _ _ rfl rfl (loadPt_run _ w.heap.size (0 + 9) x.o D2.out.o)) ?_) | (refine wpList_isW rfl _ _ (exec_load _ _ _ _ rfl rfl (loadPt_run _ w.heap.size (0 + 4) x.t D2.out.t)) ?_) | (refine wpList_isW rfl _ _ (exec_load _ _ _ _ rfl rfl (loadPt_run _ (w.heap.size + 1) 0 pZ RZ.out)) ?_) | (refine wpList_isW rfl _ _ (exec_eqPts _ _ _ x.o pZ rfl rfl rfl) ?_) | (refine wpList_isW rfl _ _ (exec_eqPts _ _ _ x.t pZ rfl rfl rfl) ?_) | fail)
        go_ret
        exact retD HR.out.symm KB.out

set_option maxHeartbeats 6400000 in
theorem dMay_any (w : World) (x : Dl) : Calls Try.prog 21 #[dlV x] w (MayPost w (mayL x)) := by
  have ka : Keeps [] w (w.alloc (.cells x.cells.toArray 49)) := (Keeps.refl [] w).alloc _
  have rn := range_new w x.cells 49
  have RN := hid rn
  have da := dl_range rn
  have DA := hid da
  have KA := hid ka
  have HS := hid (show w.heap.size < (w.alloc (.cells x.cells.toArray 49)).heap.size by simp)
  have c1 := da.c1
  have c2 := da.c2
  have c3 := da.c3
  simp only [Nat.zero_add] at c1 c2 c3
  obtain ⟨r, hr⟩ : ∃ r, r = mayL x := ⟨_, rfl⟩
  rw [← hr]
  unfold mayL at hr
  have HR := hid hr
  clear hr da ka rn
  cases h0 : btw x.i 2 128 with
  | false =>
    have H0 := hid h0
    clear h0
    go_enter Try.func21, Try.ntmps21
    go_wp2_with (first | (refine wpList_is rfl _ _ (exec_box 49 _ x.cells.toArray rfl rfl) ?_) | fail)
    refine (dwithin_as _ x.i 2 128 _ H0.out).mono ?_
    rintro e _ ⟨rfl, rfl⟩
    go_wp2_with fail
    go_ret
    exact retD (by rw [HR.out, H0.out]; rfl) KA.out
  | true =>
    have H0 := hid h0
    clear h0
    cases h1 : btw x.b 0 63 with
    | false =>
      have H1 := hid h1
      clear h1
      go_enter Try.func21, Try.ntmps21
      go_wp2_with (first | (refine wpList_is rfl _ _ (exec_box 49 _ x.cells.toArray rfl rfl) ?_) | fail)
      refine (dwithin_as _ x.i 2 128 _ H0.out).mono ?_
      rintro e _ ⟨rfl, rfl⟩
      go_wp2_with fail
      refine (dwithin_as _ x.b 0 63 _ H1.out).mono ?_
      rintro e _ ⟨rfl, rfl⟩
      go_wp2_with fail
      go_ret
      exact retD (by rw [HR.out, H0.out, H1.out]; rfl) KA.out
    | true =>
      have H1 := hid h1
      clear h1
      cases h2 : btw x.s 0 4096 with
      | false =>
        have H2 := hid h2
        clear h2
        go_enter Try.func21, Try.ntmps21
        go_wp2_with (first | (refine wpList_is rfl _ _ (exec_box 49 _ x.cells.toArray rfl rfl) ?_) | fail)
        refine (dwithin_as _ x.i 2 128 _ H0.out).mono ?_
        rintro e _ ⟨rfl, rfl⟩
        go_wp2_with fail
        refine (dwithin_as _ x.b 0 63 _ H1.out).mono ?_
        rintro e _ ⟨rfl, rfl⟩
        go_wp2_with fail
        refine (dwithin_as _ x.s 0 4096 _ H2.out).mono ?_
        rintro e _ ⟨rfl, rfl⟩
        go_wp2_with fail
        go_ret
        exact retD (by rw [HR.out, H0.out, H1.out, H2.out]; rfl) KA.out
      | true =>
        have H2 := hid h2
        clear h2
        cases h3 : mayP x.t with
        | false =>
          have H3 := hid h3
          clear h3
          go_enter Try.func21, Try.ntmps21
          go_wp2_with (first | (refine wpList_is rfl _ _ (exec_box 49 _ x.cells.toArray rfl rfl) ?_) | fail)
          refine (dwithin_as _ x.i 2 128 _ H0.out).mono ?_
          rintro e _ ⟨rfl, rfl⟩
          go_wp2_with fail
          refine (dwithin_as _ x.b 0 63 _ H1.out).mono ?_
          rintro e _ ⟨rfl, rfl⟩
          go_wp2_with fail
          refine (dwithin_as _ x.s 0 4096 _ H2.out).mono ?_
          rintro e _ ⟨rfl, rfl⟩
          go_wp2_with (first | (refine wpList_isW rfl _ _ (exec_load _ _ _ _ rfl rfl (loadPt_run _ w.heap.size (0 + 4) x.t DA.out.t)) ?_) | fail)
          refine (may11_any _ x.t).mono ?_
          rintro e w3 ⟨rfl, k3⟩
          rw [H3.out]
          have K3 := hid k3
          clear k3
          go_wp2_with fail
          go_ret
          exact retD (by rw [HR.out, H0.out, H1.out, H2.out, H3.out]; rfl) (KA.out.trans K3.out)
        | true =>
          have H3 := hid h3
          clear h3
          cases h4 : mayP x.o with
          | false =>
            have H4 := hid h4
            clear h4
            go_enter Try.func21, Try.ntmps21
            go_wp2_with (first | (refine wpList_is rfl _ _ (exec_box 49 _ x.cells.toArray rfl rfl) ?_) | fail)
            refine (dwithin_as _ x.i 2 128 _ H0.out).mono ?_
            rintro e _ ⟨rfl, rfl⟩
            go_wp2_with fail
            refine (dwithin_as _ x.b 0 63 _ H1.out).mono ?_
            rintro e _ ⟨rfl, rfl⟩
            go_wp2_with fail
            refine (dwithin_as _ x.s 0 4096 _ H2.out).mono ?_
            rintro e _ ⟨rfl, rfl⟩
            go_wp2_with (first | (refine wpList_isW rfl _ _ (exec_load _ _ _ _ rfl rfl (loadPt_run _ w.heap.size (0 + 4) x.t DA.out.t)) ?_) | fail)
            refine (may11_any _ x.t).mono ?_
            rintro e w3 ⟨rfl, k3⟩
            rw [H3.out]
            have K3 := hid k3
            clear k3
            go_wp2_with (first | (refine wpList_isW rfl _ _ (exec_load _ _ _ _ rfl rfl (loadPt_run _ w.heap.size (0 + 9) x.o (range_keep DA.out.o K3.out (by simp)))) ?_) | fail)
            refine (may11_any _ x.o).mono ?_
            rintro e w4 ⟨rfl, k4⟩
            rw [H4.out]
            have K4 := hid (K3.out.trans k4)
            clear k4
            go_wp2_with fail
            go_ret
            exact retD (by rw [HR.out, H0.out, H1.out, H2.out, H3.out, H4.out]; rfl) (KA.out.trans K4.out)
          | true =>
            have H4 := hid h4
            clear h4
            cases h5 : kindD x with
            | false =>
              have H5 := hid h5
              clear h5
              go_enter Try.func21, Try.ntmps21
              go_wp2_with (first | (refine wpList_is rfl _ _ (exec_box 49 _ x.cells.toArray rfl rfl) ?_) | fail)
              refine (dwithin_as _ x.i 2 128 _ H0.out).mono ?_
              rintro e _ ⟨rfl, rfl⟩
              go_wp2_with fail
              refine (dwithin_as _ x.b 0 63 _ H1.out).mono ?_
              rintro e _ ⟨rfl, rfl⟩
              go_wp2_with fail
              refine (dwithin_as _ x.s 0 4096 _ H2.out).mono ?_
              rintro e _ ⟨rfl, rfl⟩
              go_wp2_with (first | (refine wpList_isW rfl _ _ (exec_load _ _ _ _ rfl rfl (loadPt_run _ w.heap.size (0 + 4) x.t DA.out.t)) ?_) | fail)
              refine (may11_any _ x.t).mono ?_
              rintro e w3 ⟨rfl, k3⟩
              rw [H3.out]
              have K3 := hid k3
              clear k3
              go_wp2_with (first | (refine wpList_isW rfl _ _ (exec_load _ _ _ _ rfl rfl (loadPt_run _ w.heap.size (0 + 9) x.o (range_keep DA.out.o K3.out (by simp)))) ?_) | fail)
              refine (may11_any _ x.o).mono ?_
              rintro e w4 ⟨rfl, k4⟩
              rw [H4.out]
              have K4 := hid (K3.out.trans k4)
              clear k4
              go_wp2_with (first | (refine wpList_isW rfl _ _ (exec_load _ _ _ _ rfl rfl (loadDl_run _ w.heap.size 0 x (range_keep RN.out K4.out (by simp)))) ?_) | fail)
              refine (dKind_any _ x).mono ?_
              rintro e w5 ⟨rfl, k5⟩
              rw [H5.out]
              have K5 := hid (K4.out.trans k5)
              clear k5
              go_wp2_with fail
              go_ret
              exact retD (by rw [HR.out, H0.out, H1.out, H2.out, H3.out, H4.out, H5.out]; rfl) (KA.out.trans K5.out)
            | true =>
              have H5 := hid h5
              clear h5
              go_enter Try.func21, Try.ntmps21
              go_wp2_with (first | (refine wpList_is rfl _ _ (exec_box 49 _ x.cells.toArray rfl rfl) ?_) | fail)
              refine (dwithin_as _ x.i 2 128 _ H0.out).mono ?_
              rintro e _ ⟨rfl, rfl⟩
              go_wp2_with fail
              refine (dwithin_as _ x.b 0 63 _ H1.out).mono ?_
              rintro e _ ⟨rfl, rfl⟩
              go_wp2_with fail
              refine (dwithin_as _ x.s 0 4096 _ H2.out).mono ?_
              rintro e _ ⟨rfl, rfl⟩
              go_wp2_with (first | (refine wpList_isW rfl _ _ (exec_load _ _ _ _ rfl rfl (loadPt_run _ w.heap.size (0 + 4) x.t DA.out.t)) ?_) | fail)
              refine (may11_any _ x.t).mono ?_
              rintro e w3 ⟨rfl, k3⟩
              rw [H3.out]
              have K3 := hid k3
              clear k3
              go_wp2_with (first | (refine wpList_isW rfl _ _ (exec_load _ _ _ _ rfl rfl (loadPt_run _ w.heap.size (0 + 9) x.o (range_keep DA.out.o K3.out (by simp)))) ?_) | fail)
              refine (may11_any _ x.o).mono ?_
              rintro e w4 ⟨rfl, k4⟩
              rw [H4.out]
              have K4 := hid (K3.out.trans k4)
              clear k4
              go_wp2_with (first | (refine wpList_isW rfl _ _ (exec_load _ _ _ _ rfl rfl (loadDl_run _ w.heap.size 0 x (range_keep RN.out K4.out (by simp)))) ?_) | fail)
              refine (dKind_any _ x).mono ?_
              rintro e w5 ⟨rfl, k5⟩
              rw [H5.out]
              have K5 := hid (K4.out.trans k5)
              clear k5
              go_wp2_with fail
              go_ret
              exact retD (by rw [HR.out, H0.out, H1.out, H2.out, H3.out, H4.out, H5.out]; rfl) (KA.out.trans K5.out)

set_option maxHeartbeats 3200000 in
theorem dMayNot_any (w : World) (x : Dl) : Calls Try.prog 58 #[dlV x] w (MayPost w (!mayL x)) := by
  have ka : Keeps [] w (w.alloc (.cells x.cells.toArray 49)) := (Keeps.refl [] w).alloc _
  have RN := hid (range_new w x.cells 49)
  have KA := hid ka
  clear ka
  go_enter Try.func58, Try.ntmps58
  go_wp2_with (first | (refine wpList_is rfl _ _ (exec_box 49 _ x.cells.toArray rfl rfl) ?_) | (refine wpList_isW rfl _ _ (exec_load _ _ _ _ rfl rfl (loadDl_run _ w.heap.size 0 x RN.out)) ?_) | fail)
  refine (dMay_any _ x).mono ?_
  rintro e w2 ⟨rfl, k2⟩
  have K2 := hid (KA.out.trans k2)
  clear k2
  go_wp2_with fail
  go_ret
  exact retD rfl K2.out
end Go.Proofs.Ytamcllcjondcpaa


/- delta: what a reading holds; its numbers, pointers. -/
namespace Go.Proofs.Ytamcllcjondcpaa
open Go.RowKit Go.Shelf
set_option maxRecDepth 100000
set_option linter.unusedSimpArgs false

def rdCells (p : Nat) (x : Dl) : Array Value := #[.pointer (some ⟨p, 0, none⟩), .int .i64 x.d, .int .i64 x.i, .int .i64 x.b, .int .i64 x.s, .int .i64 x.t.c, .int .i64 x.t.l, .int .i64 x.t.n, .int .i64 x.t.a, .int .i64 x.t.k, .int .i64 x.o.c, .int .i64 x.o.l, .int .i64 x.o.n, .int .i64 x.o.a, .int .i64 x.o.k]
/-- The four numbers ahead of a delta's pointers. -/
def headE (st : PSt) : Dl × PSt :=
  let a := numE 1 st; let b := numE 2 a.2; let c := numE 1 b.2; let d := numE 2 c.2
  (⟨a.1, b.1, c.1, d.1, pZ, pZ⟩, d.2)
theorem exec_storePtIn {ρ : Operand → Value} {o : Oper} {w : World} (x y : Operand) (hop : o.op = .store 47 x y) (T : TypeId) (g off : Nat) (hx : ρ x = .pointer (some ⟨g, off, none⟩)) (cur : Array Value)
    (hb : w.heap[g]? = some (.cells cur T (0, 0))) (hfit : off + 5 ≤ cur.size) (t : Pt) (hy : ρ y = ptV t) :
    (execOp ρ o).run Try.prog w = .ok .skip (w.setRow g (cur.toList.take off ++ t.cells ++ cur.toList.drop (off + 5)).toArray) := by
  have hst := run_storeCells_at Try.prog g off T t.cells 0 cur w hb (by simpa [Pt.cells] using hfit) (fun v hv => pcells_one [t] v (by simpa [pcells] using hv))
  have hr : (Instr.storeAt 47 (.pointer (some ⟨g, off, none⟩)) (ptV t)).run Try.prog w = .ok () (w.setRow g (cur.toList.take off ++ t.cells ++ cur.toList.drop (off + 5)).toArray) := by
    obtain ⟨i0, hi, hz0, hz1, hz2⟩ := info_parts iPtr
    have e3 : (ptV t).cells = t.cells.toArray := rfl
    have e4 : t.cells.length = 5 := rfl
    simp only [Nat.add_zero, e4] at hst
    simp only [Instr.storeAt, Instr.sureAddr, Sem.run_bind, Sem.run_pure, Result.andThen_ok, storeVar]
    have e5 : t.cells.toArray.size = 5 := rfl
    simp [sizeOf, typeInfo, hi, hz1, e3, e4, e5, hst]
  unfold execOp
  simp only [hop, hx, hy, hr, Sem.run_bind, Result.andThen_ok]
  rfl
theorem EyL.kept {w wr w' : World} {B p : Nat} {v : Value} {st : PSt} (h : EyL w wr B p v st) {b : Nat} (k : Keeps [b] wr w') (hb : w.heap.size ≤ b) (hp : p ≠ b) : EyL w w' B p v st := h.later k hb hp
def RdPostN (w0 w : World) (B p b : Nat) (v : Value) (st : PSt) (x : Dl) (e : Ending) (w' : World) : Prop :=
  e = .returned (.tuple #[]) ∧ EyL w0 w' B p v st ∧ w'.heap[b]? = some (.cells (rdCells p x) 116 (0, 0)) ∧ Keeps [p, b] w w'

set_option maxHeartbeats 12800000 in
theorem dNums_any {w0 : World} (w : World) (B p b : Nat) (v : Value) (st : PSt) (h : EyL w0 w B p v st) (hw0 : w0.heap.size ≤ b) (hb : w.heap[b]? = some (.cells (rdCells p dZ) 116 (0, 0))) (hpb : p ≠ b) :
    Calls Try.prog 87 #[.pointer (some ⟨b, 0, none⟩)] w (RdPostN w0 w B p b v (headE st).2 (headE st).1) := by
  obtain ⟨x1, s1, e1⟩ : ∃ x s, numE 1 st = (x, s) := ⟨_, _, rfl⟩
  obtain ⟨x2, s2, e2⟩ : ∃ x s, numE 2 s1 = (x, s) := ⟨_, _, rfl⟩
  obtain ⟨x3, s3, e3⟩ : ∃ x s, numE 1 s2 = (x, s) := ⟨_, _, rfl⟩
  obtain ⟨x4, s4, e4⟩ : ∃ x s, numE 2 s3 = (x, s) := ⟨_, _, rfl⟩
  have EG : Hid (headE st = (⟨x1, x2, x3, x4, pZ, pZ⟩, s4)) := hid (by unfold headE; rw [e1]; simp only; rw [e2]; simp only; rw [e3]; simp only; rw [e4])
  have N1 := hid e1
  have N2 := hid e2
  have N3 := hid e3
  have N4 := hid e4
  have E0 := hid h
  have J0 := hid hb
  have HW := hid hw0
  have HP := hid hpb
  have K0 : Hid (Keeps [p, b] w w) := hid (Keeps.refl _ _)
  have LT := hid (lt_of_block hb)
  obtain ⟨cp, fp⟩ := five_cells hb 0
  change w.cell? ⟨b, 0, none⟩ = some (.pointer (some ⟨p, 0, none⟩)) at cp
  rw [EG.out]
  clear h hb hw0 hpb e1 e2 e3 e4 fp
  go_enter Try.func87, Try.ntmps87
  go_wp2_with fail
  clear cp
  have A := E0.out.num 1
  rw [N1.out] at A
  refine A.mono ?_
  rintro e u1 ⟨rfl, ey, kk⟩
  have F1 := hid ((kk.block b (by have := LT.out; have := K0.out.size; omega) (by have := HP.out; simp; omega)).trans J0.out)
  have T1 := hid ey
  have KU1 := hid (K0.out.trans (kk.mono (S' := [p, b]) (fun k _ hk => by simp at hk ⊢; simp [hk])))
  obtain ⟨cc, ff⟩ := five_cells F1.out 1
  change u1.cell? ⟨b, 1, none⟩ = some (.int .i64 0) at cc
  clear A ey kk
  have jj := set_five (i := 1) F1.out (.int .i64 x1)
  have J1 : Hid ((u1.setCell ⟨b, 1, none⟩ (.int .i64 x1)).heap[b]? = some (.cells (rdCells p ⟨x1, 0, 0, 0, pZ, pZ⟩) 116 (0, 0))) := hid jj
  have sk : Keeps [b] u1 (u1.setCell ⟨b, 1, none⟩ (.int .i64 x1)) := set_keep
  have E1 := hid (T1.out.later sk HW.out HP.out)
  have K1 := hid (KU1.out.trans (sk.mono (S' := [p, b]) (fun k _ hk => by simp at hk ⊢; simp [hk])))
  obtain ⟨cp, fp⟩ := five_cells J1.out 0
  change (u1.setCell ⟨b, 1, none⟩ (.int .i64 x1)).cell? ⟨b, 0, none⟩ = some (.pointer (some ⟨p, 0, none⟩)) at cp
  clear sk jj fp
  go_wp2_with fail
  clear cp
  have A := E1.out.num 2
  rw [N2.out] at A
  refine A.mono ?_
  rintro e u2 ⟨rfl, ey, kk⟩
  have F2 := hid ((kk.block b (by have := LT.out; have := K1.out.size; omega) (by have := HP.out; simp; omega)).trans J1.out)
  have T2 := hid ey
  have KU2 := hid (K1.out.trans (kk.mono (S' := [p, b]) (fun k _ hk => by simp at hk ⊢; simp [hk])))
  obtain ⟨cc, ff⟩ := five_cells F2.out 2
  change u2.cell? ⟨b, 2, none⟩ = some (.int .i64 0) at cc
  clear A ey kk
  have jj := set_five (i := 2) F2.out (.int .i64 x2)
  have J2 : Hid ((u2.setCell ⟨b, 2, none⟩ (.int .i64 x2)).heap[b]? = some (.cells (rdCells p ⟨x1, x2, 0, 0, pZ, pZ⟩) 116 (0, 0))) := hid jj
  have sk : Keeps [b] u2 (u2.setCell ⟨b, 2, none⟩ (.int .i64 x2)) := set_keep
  have E2 := hid (T2.out.later sk HW.out HP.out)
  have K2 := hid (KU2.out.trans (sk.mono (S' := [p, b]) (fun k _ hk => by simp at hk ⊢; simp [hk])))
  obtain ⟨cp, fp⟩ := five_cells J2.out 0
  change (u2.setCell ⟨b, 2, none⟩ (.int .i64 x2)).cell? ⟨b, 0, none⟩ = some (.pointer (some ⟨p, 0, none⟩)) at cp
  clear sk jj fp
  go_wp2_with fail
  clear cp
  have A := E2.out.num 1
  rw [N3.out] at A
  refine A.mono ?_
  rintro e u3 ⟨rfl, ey, kk⟩
  have F3 := hid ((kk.block b (by have := LT.out; have := K2.out.size; omega) (by have := HP.out; simp; omega)).trans J2.out)
  have T3 := hid ey
  have KU3 := hid (K2.out.trans (kk.mono (S' := [p, b]) (fun k _ hk => by simp at hk ⊢; simp [hk])))
  obtain ⟨cc, ff⟩ := five_cells F3.out 3
  change u3.cell? ⟨b, 3, none⟩ = some (.int .i64 0) at cc
  clear A ey kk
  have jj := set_five (i := 3) F3.out (.int .i64 x3)
  have J3 : Hid ((u3.setCell ⟨b, 3, none⟩ (.int .i64 x3)).heap[b]? = some (.cells (rdCells p ⟨x1, x2, x3, 0, pZ, pZ⟩) 116 (0, 0))) := hid jj
  have sk : Keeps [b] u3 (u3.setCell ⟨b, 3, none⟩ (.int .i64 x3)) := set_keep
  have E3 := hid (T3.out.later sk HW.out HP.out)
  have K3 := hid (KU3.out.trans (sk.mono (S' := [p, b]) (fun k _ hk => by simp at hk ⊢; simp [hk])))
  obtain ⟨cp, fp⟩ := five_cells J3.out 0
  change (u3.setCell ⟨b, 3, none⟩ (.int .i64 x3)).cell? ⟨b, 0, none⟩ = some (.pointer (some ⟨p, 0, none⟩)) at cp
  clear sk jj fp
  go_wp2_with fail
  clear cp
  have A := E3.out.num 2
  rw [N4.out] at A
  refine A.mono ?_
  rintro e u4 ⟨rfl, ey, kk⟩
  have F4 := hid ((kk.block b (by have := LT.out; have := K3.out.size; omega) (by have := HP.out; simp; omega)).trans J3.out)
  have T4 := hid ey
  have KU4 := hid (K3.out.trans (kk.mono (S' := [p, b]) (fun k _ hk => by simp at hk ⊢; simp [hk])))
  obtain ⟨cc, ff⟩ := five_cells F4.out 4
  change u4.cell? ⟨b, 4, none⟩ = some (.int .i64 0) at cc
  clear A ey kk
  have jj := set_five (i := 4) F4.out (.int .i64 x4)
  have J4 : Hid ((u4.setCell ⟨b, 4, none⟩ (.int .i64 x4)).heap[b]? = some (.cells (rdCells p ⟨x1, x2, x3, x4, pZ, pZ⟩) 116 (0, 0))) := hid jj
  have sk : Keeps [b] u4 (u4.setCell ⟨b, 4, none⟩ (.int .i64 x4)) := set_keep
  have E4 := hid (T4.out.later sk HW.out HP.out)
  have K4 := hid (KU4.out.trans (sk.mono (S' := [p, b]) (fun k _ hk => by simp at hk ⊢; simp [hk])))
  obtain ⟨cp, fp⟩ := five_cells J4.out 0
  change (u4.setCell ⟨b, 4, none⟩ (.int .i64 x4)).cell? ⟨b, 0, none⟩ = some (.pointer (some ⟨p, 0, none⟩)) at cp
  clear sk jj fp
  go_wp2_with fail
  go_end0
  exact ⟨rfl, E4.out, J4.out, K4.out⟩

set_option maxHeartbeats 6400000 in
theorem dTo_any {w0 : World} (w : World) (B p b : Nat) (v : Value) (st : PSt) (x : Dl) (h : EyL w0 w B p v st) (hw0 : w0.heap.size ≤ b) (hb : w.heap[b]? = some (.cells (rdCells p x) 116 (0, 0))) (hpb : p ≠ b) :
    Calls Try.prog 94 #[.pointer (some ⟨b, 0, none⟩)] w (RdPostN w0 w B p b v (getP st).2 { x with t := getA st }) := by
  have HW := hid hw0
  have HP := hid hpb
  have LT := hid (lt_of_block hb)
  have HB := hid hb
  obtain ⟨cp, fp⟩ := five_cells hb 0
  change w.cell? ⟨b, 0, none⟩ = some (.pointer (some ⟨p, 0, none⟩)) at cp
  have A := zGetPtr_any w B p v st h (by have := lt_of_block hb; omega)
  obtain ⟨y, hy⟩ : ∃ y, y = getA st := ⟨_, rfl⟩
  rw [← hy] at A ⊢
  clear h hb hw0 hpb fp hy
  go_enter Try.func94, Try.ntmps94
  go_wp2_with fail
  clear cp
  refine A.mono ?_
  rintro e u ⟨rfl, ey, kk⟩
  have F1 := hid ((kk.block b LT.out (by have := HP.out; simp; omega)).trans HB.out)
  have T1 := hid ey
  have K1 := hid kk
  clear A ey kk
  obtain ⟨r1, r2⟩ := setRow_keepsP (cs := ((rdCells p x).toList.take 5 ++ y.cells ++ (rdCells p x).toList.drop (5 + 5)).toArray) F1.out
  have R1 := hid r1
  have R2 := hid r2
  clear r1 r2
  go_wp2_with (first | (refine wpList_noval rfl _ (exec_storePtIn _ _ rfl 116 b 5 rfl (rdCells p x) F1.out (by simp [rdCells]) y rfl) ?_) | fail)
  go_end0
  exact ⟨rfl, T1.out.later R2.out HW.out HP.out, R1.out, (K1.out.mono (S' := [p, b]) (fun k _ hk => by simp at hk ⊢; simp [hk])).trans (R2.out.mono (S' := [p, b]) (fun k _ hk => by simp at hk ⊢; simp [hk]))⟩

set_option maxHeartbeats 6400000 in
theorem dOld_any {w0 : World} (w : World) (B p b : Nat) (v : Value) (st : PSt) (x : Dl) (h : EyL w0 w B p v st) (hw0 : w0.heap.size ≤ b) (hb : w.heap[b]? = some (.cells (rdCells p x) 116 (0, 0))) (hpb : p ≠ b) :
    Calls Try.prog 95 #[.pointer (some ⟨b, 0, none⟩)] w (RdPostN w0 w B p b v (getP st).2 { x with o := getA st }) := by
  have HW := hid hw0
  have HP := hid hpb
  have LT := hid (lt_of_block hb)
  have HB := hid hb
  obtain ⟨cp, fp⟩ := five_cells hb 0
  change w.cell? ⟨b, 0, none⟩ = some (.pointer (some ⟨p, 0, none⟩)) at cp
  have A := zGetPtr_any w B p v st h (by have := lt_of_block hb; omega)
  obtain ⟨y, hy⟩ : ∃ y, y = getA st := ⟨_, rfl⟩
  rw [← hy] at A ⊢
  clear h hb hw0 hpb fp hy
  go_enter Try.func95, Try.ntmps95
  go_wp2_with fail
  clear cp
  refine A.mono ?_
  rintro e u ⟨rfl, ey, kk⟩
  have F1 := hid ((kk.block b LT.out (by have := HP.out; simp; omega)).trans HB.out)
  have T1 := hid ey
  have K1 := hid kk
  clear A ey kk
  obtain ⟨r1, r2⟩ := setRow_keepsP (cs := ((rdCells p x).toList.take 10 ++ y.cells ++ (rdCells p x).toList.drop (10 + 5)).toArray) F1.out
  have R1 := hid r1
  have R2 := hid r2
  clear r1 r2
  go_wp2_with (first | (refine wpList_noval rfl _ (exec_storePtIn _ _ rfl 116 b 10 rfl (rdCells p x) F1.out (by simp [rdCells]) y rfl) ?_) | fail)
  go_end0
  exact ⟨rfl, T1.out.later R2.out HW.out HP.out, R1.out, (K1.out.mono (S' := [p, b]) (fun k _ hk => by simp at hk ⊢; simp [hk])).trans (R2.out.mono (S' := [p, b]) (fun k _ hk => by simp at hk ⊢; simp [hk]))⟩

end Go.Proofs.Ytamcllcjondcpaa


/- delta: which pointers are read besides; the parts of Get. -/
namespace Go.Proofs.Ytamcllcjondcpaa
open Go.RowKit Go.Shelf
set_option maxRecDepth 100000
set_option linter.unusedSimpArgs false

def fnV (f b : Nat) : Value := .func (.func f) #[.pointer (some ⟨b, 0, none⟩)] #[]
section
variable {w : World} {p b : Nat} {x : Dl}
set_option maxHeartbeats 3200000 in
theorem dPtrs1_any (hb : w.heap[b]? = some (.cells (rdCells p x) 116 (0, 0))) (hd : x.d = 1) :
    Calls Try.prog 88 #[.pointer (some ⟨b, 0, none⟩)] w fun e w' => e = .returned (.slice (some ⟨w.heap.size, 0, none⟩) 1 1) ∧ w' = w.alloc (.cells #[fnV 94 b] 1) := by
  have hmf : ∀ (fn : Fn) (first cap : Array Value) (w : World), (Instr.makeFunc fn first cap).run Try.prog w = .ok (.func fn first cap) w := fun _ _ _ _ => rfl
  obtain ⟨c1, f1⟩ := five_cells hb 1
  change w.cell? ⟨b, 1, none⟩ = some (.int .i64 x.d) at c1
  rw [hd] at c1
  clear f1 hb hd
  go_enter Try.func88, Try.ntmps88
  go_wp2_with fail
  go_ret
  exact ⟨rfl, rfl⟩
set_option maxHeartbeats 3200000 in
theorem dPtrs3_any (hb : w.heap[b]? = some (.cells (rdCells p x) 116 (0, 0))) (hd : x.d = 3) :
    Calls Try.prog 88 #[.pointer (some ⟨b, 0, none⟩)] w fun e w' => e = .returned (.slice (some ⟨w.heap.size, 0, none⟩) 2 2) ∧ w' = w.alloc (.cells #[fnV 95 b, fnV 94 b] 1) := by
  have hmf : ∀ (fn : Fn) (first cap : Array Value) (w : World), (Instr.makeFunc fn first cap).run Try.prog w = .ok (.func fn first cap) w := fun _ _ _ _ => rfl
  obtain ⟨c1, f1⟩ := five_cells hb 1
  change w.cell? ⟨b, 1, none⟩ = some (.int .i64 x.d) at c1
  rw [hd] at c1
  clear f1 hb hd
  go_enter Try.func88, Try.ntmps88
  go_wp2_with fail
  go_ret
  exact ⟨rfl, rfl⟩
set_option maxHeartbeats 3200000 in
theorem dPtrs0_any (hb : w.heap[b]? = some (.cells (rdCells p x) 116 (0, 0))) (h1 : x.d ≠ 1) (h3 : x.d ≠ 3) :
    Calls Try.prog 88 #[.pointer (some ⟨b, 0, none⟩)] w fun e w' => e = .returned (.slice none 0 0) ∧ w' = w := by
  obtain ⟨c1, f1⟩ := five_cells hb 1
  change w.cell? ⟨b, 1, none⟩ = some (.int .i64 x.d) at c1
  have e1 : (x.d == 1) = false := by simpa using h1
  have e3 : (x.d == 3) = false := by simpa using h3
  clear f1 hb h1 h3
  go_enter Try.func88, Try.ntmps88
  go_wp2_with fail
  go_ret
  exact ⟨rfl, rfl⟩
end
theorem buildRd (w : World) (p : Nat) : (Instr.build 116 #[(0, .pointer (some ⟨p, 0, none⟩))]).run Try.prog w = .ok (.agg (rdCells p dZ)) w := by kernel_rfl
theorem exec_buildRd {ρ : Operand → Value} {o : Oper} {w : World} (x : Operand) (p : Nat) (ho : o.op = .build 116 #[(0, x)]) (hx : ρ x = .pointer (some ⟨p, 0, none⟩)) : (execOp ρ o).run Try.prog w = .ok (.value (.agg (rdCells p dZ))) w := by
  simp only [execOp, ho, List.map_toArray, List.map_cons, List.map_nil, hx, Sem.run_bind, buildRd, Result.andThen_ok, Sem.run_pure]
theorem dl_ret2 {fn : Func} {p q : Tmp} (hr : fn.results = #[.cell p 49, .tmp q]) {tmps : Array Value} {w : World} {b : Nat} {x : Dl} {y : Value} (hp : tmps.getD p undef = .pointer (some ⟨b, 0, none⟩)) (hx : w.rangeAt b 0 x.cells) (hq : tmps.getD q undef = y) :
    (results fn tmps).run Try.prog w = .ok (.tuple #[dlV x, y]) w := by
  have hv : (loadVar 49 ⟨b, 0, none⟩).run Try.prog w = .ok (dlV x) w := run_loadVar_mid w b 0 49 x.cells _ hx uDelta rfl (by rw [sDelta]; rfl)
  have hp' : tmps[p]?.getD undef = .pointer (some ⟨b, 0, none⟩) := by simpa using hp
  have hq' : tmps[q]?.getD undef = y := by simpa using hq
  simp [results, hr, hp', hq', asAddr, hv, Result.andThen]
theorem dl_ret1 {fn : Func} {p : Tmp} (hr : fn.results = #[.cell p 49]) {tmps : Array Value} {w : World} {b : Nat} {x : Dl} (hp : tmps.getD p undef = .pointer (some ⟨b, 0, none⟩)) (hx : w.rangeAt b 0 x.cells) : (results fn tmps).run Try.prog w = .ok (dlV x) w := by
  have hp' : tmps[p]?.getD undef = .pointer (some ⟨b, 0, none⟩) := by simpa using hp
  have hv : (loadVar 49 ⟨b, 0, none⟩).run Try.prog w = .ok (dlV x) w := run_loadVar_mid w b 0 49 x.cells _ hx uDelta rfl (by rw [sDelta]; rfl)
  simp [results, hr, hp', asAddr, hv]
end Go.Proofs.Ytamcllcjondcpaa


/- delta: Get. -/
namespace Go.Proofs.Ytamcllcjondcpaa
open Go.RowKit Go.Shelf
set_option maxRecDepth 100000
set_option linter.unusedSimpArgs false

/-- What a reading has read, and what is left. -/
def getC (st : PSt) : Dl × PSt :=
  if (headE st).1.d = 1 then ({ (headE st).1 with t := getA (headE st).2 }, (getP (headE st).2).2)
  else if (headE st).1.d = 3 then ({ (headE st).1 with o := getA (headE st).2, t := getA (getP (headE st).2).2 }, (getP (getP (headE st).2).2).2)
  else headE st
/-- What Get answers. -/
def getO (o : Dl × PSt) : Dl × Int := if o.2.2 ≠ 0 then (dZ, o.2.2) else if mayL o.1 = true then (o.1, 0) else (dZ, 4)
def GetPost (w0 w : World) (B p : Nat) (v : Value) (st : PSt) (e : Ending) (w' : World) : Prop :=
  e = .returned (.tuple #[dlV (getO (getC st)).1, .int .i64 (getO (getC st)).2]) ∧ EyL w0 w' B p v (getC st).2 ∧ Keeps [p] w w'
theorem exec_storeDl {ρ : Operand → Value} {o : Oper} {w : World} (x y : Operand) (hop : o.op = .store 49 x y) (g : Nat) (hx : ρ x = .pointer (some ⟨g, 0, none⟩)) (z : Dl) (T : TypeId)
    (hb : w.heap[g]? = some (.cells z.cells.toArray T (0, 0))) (t : Dl) (hy : ρ y = dlV t) :
    (execOp ρ o).run Try.prog w = .ok .skip (w.setRow g t.cells.toArray) := by
  have hst := run_storeCells_at Try.prog g 0 T t.cells 0 z.cells.toArray w hb (by simp [Dl.cells, Pt.cells]) (fun v hv => by
    have := dcells_one t
    rw [Array.all_eq_true_iff_forall_mem] at this
    exact this v (by simpa using hv))
  have e4 : t.cells.length = 14 := rfl
  have e7 : z.cells.toArray.size = 14 := rfl
  have e6 : (z.cells.toArray.toList.take 0 ++ t.cells ++ z.cells.toArray.toList.drop (0 + t.cells.length)).toArray = t.cells.toArray := by simp [Dl.cells, Pt.cells]
  have hr : (Instr.storeAt 49 (.pointer (some ⟨g, 0, none⟩)) (dlV t)).run Try.prog w = .ok () (w.setRow g t.cells.toArray) := by
    have hs := sDelta
    cases hq : Try.prog.info? 49 with
    | none => rw [hq] at hs; cases hs
    | some i0 =>
      rw [hq] at hs
      have hz1 : i0.size = 14 := by simpa using hs
      have e3 : (dlV t).cells = t.cells.toArray := rfl
      have e5 : t.cells.toArray.size = 14 := rfl
      simp only [Nat.add_zero, e6] at hst
      simp only [Instr.storeAt, Instr.sureAddr, Sem.run_bind, Sem.run_pure, Result.andThen_ok, storeVar]
      simp [sizeOf, typeInfo, hq, hz1, e3, e4, e5, hst]
  unfold execOp
  simp only [hop, hx, hy, hr, Sem.run_bind, Result.andThen_ok]
  rfl
theorem range_dl {w : World} {b : Nat} {x : Dl} {T : TypeId} (h : w.heap[b]? = some (.cells x.cells.toArray T (0, 0))) : w.rangeAt b 0 x.cells := fun j u hu => by
  rw [Nat.zero_add, cell_of_row _ _ _ _ _ _ h, ← Array.getElem?_toList]
  simpa using hu
theorem range_rd {w : World} {b p : Nat} {x : Dl} {T : TypeId} (h : w.heap[b]? = some (.cells (rdCells p x) T (0, 0))) : w.rangeAt b 1 x.cells := fun j u hu => by
  rw [cell_of_row _ _ _ _ _ _ h, ← Array.getElem?_toList, show (rdCells p x).toList = .pointer (some ⟨p, 0, none⟩) :: x.cells from rfl, Nat.add_comm, List.getElem?_cons_succ]
  exact hu

set_option maxHeartbeats 12800000 in
theorem dGet1_any {w0 : World} (w : World) (B p : Nat) (v : Value) (st : PSt) (h : EyL w0 w B p v st) (hw0 : w0.heap.size ≤ w.heap.size) (hd : (headE st).1.d = 1) :
    Calls Try.prog 61 #[.pointer (some ⟨p, 0, none⟩)] w (GetPost w0 w B p v st) := by
  have HW0 := hid hw0
  have hpw := h.lt
  have HP := hid hpw
  have k1 : Keeps [] w (w.alloc (.cells dZ.cells.toArray 49)) := (Keeps.refl [] w).alloc _
  have k2 : Keeps [] w ((w.alloc (.cells dZ.cells.toArray 49)).alloc (.cells (rdCells p dZ) 116)) := k1.alloc _
  have E0 := hid (h.more k2)
  have D0 : Hid (((w.alloc (.cells dZ.cells.toArray 49)).alloc (.cells (rdCells p dZ) 116)).heap[w.heap.size]? = some (.cells dZ.cells.toArray 49 (0, 0))) := hid (((Keeps.refl [] (w.alloc (.cells dZ.cells.toArray 49))).alloc _).block _ (by simp) (by simp) |>.trans (heap_alloc_new w _))
  have b3 := heap_alloc_new (w.alloc (.cells dZ.cells.toArray 49)) (.cells (rdCells p dZ) 116)
  rw [World.size_alloc] at b3
  have C3 := hid b3
  have K0 := hid k2
  have HS0 := hid (show w.heap.size + 1 < ((w.alloc (.cells dZ.cells.toArray 49)).alloc (.cells (rdCells p dZ) 116)).heap.size by simp)
  obtain ⟨xz, sz, ez⟩ : ∃ x s, getC st = (x, s) := ⟨_, _, rfl⟩
  have EZ := hid (show ({ (headE st).1 with t := getA (headE st).2 } = xz ∧ (getP (headE st).2).2 = sz) by
    unfold getC at ez
    rw [if_pos hd] at ez
    simpa using ez)
  have EQ := hid ez
  obtain ⟨x0, s0, e0⟩ : ∃ x s, headE st = (x, s) := ⟨_, _, rfl⟩
  rw [e0] at EZ hd
  simp only at EZ hd
  have HN := hid (dNums_any ((w.alloc (.cells dZ.cells.toArray 49)).alloc (.cells (rdCells p dZ) 116)) B p (w.heap.size + 1) v st E0.out (by have := HW0.out; omega) C3.out (by have := HP.out; omega))
  rw [e0] at HN
  have HD := hid hd
  clear h hw0 hpw k1 k2 b3 ez e0 hd
  go_enter Try.func61, Try.ntmps61
  go_wp2_with (first | (refine wpList_is rfl _ _ (exec_alloc 49 dZ.cells.toArray iDelta rfl) ?_) | (refine wpList_is rfl _ _ (exec_buildRd _ p rfl rfl) ?_) | (refine wpList_is rfl _ _ (exec_box 116 _ (rdCells p dZ) rfl rfl) ?_) | fail)
  refine HN.out.mono ?_
  rintro e u0 ⟨rfl, ey, jb, kk⟩
  have T0 := hid ey
  have J0 := hid jb
  have G0 := hid ((kk.block w.heap.size (by have := HS0.out; omega) (by have := HP.out; simp; omega)).trans D0.out)
  have KU0 := hid ((K0.out.mono (S' := [p]) (by simp)).trans' kk (fun i hi hm => by simp at hm ⊢; omega))
  clear ey jb kk
  go_wp2_with fail
  refine (dPtrs1_any J0.out HD.out).mono ?_
  rintro e u1 ⟨rfl, hu⟩
  have kp : Keeps [] u0 u1 := by rw [hu]; exact (Keeps.refl [] u0).alloc _
  have CB : Hid (u1.heap[u0.heap.size]? = some (.cells #[fnV 94 (w.heap.size + 1)] 1 (0, 0))) := hid (by rw [hu]; exact heap_alloc_new u0 _)
  have T1 := hid (T0.out.more kp)
  have J1 := hid ((kp.block _ (lt_of_block J0.out) (by simp)).trans J0.out)
  have G1 := hid ((kp.block _ (lt_of_block G0.out) (by simp)).trans G0.out)
  have KU1 := hid (KU0.out.trans (kp.mono (by simp)))
  have HG := hid (show u0.heap.size ≠ p ∧ u0.heap.size ≠ w.heap.size + 1 ∧ u0.heap.size ≠ w.heap.size by have := lt_of_block J0.out; have := HP.out; omega)
  clear hu kp
  generalize hgg : u0.heap.size = g at CB HG ⊢
  clear hgg
  go_wp2_with fail
  obtain ⟨xs, hxs⟩ : ∃ f : Nat → Dl, f = fun k => if k = 0 then x0 else xz := ⟨_, rfl⟩
  obtain ⟨ss, hss⟩ : ∃ f : Nat → PSt, f = fun k => if k = 0 then s0 else sz := ⟨_, rfl⟩
  have HX := hid hxs
  have HSS := hid hss
  clear hxs hss
  go_loopw [16] (fun iv wr => ∃ k : Nat, k ≤ 1 ∧ iv = .int .i64 k ∧ Hid (EyL w0 wr B p v (ss k)) ∧ Hid (wr.heap[w.heap.size + 1]? = some (.cells (rdCells p (xs k)) 116 (0, 0))) ∧ Hid (wr.heap[w.heap.size]? = some (.cells dZ.cells.toArray 49 (0, 0))) ∧ Hid (wr.heap[g]? = some (.cells #[fnV 94 (w.heap.size + 1)] 1 (0, 0))) ∧ Hid (Keeps [p] w wr)) (fun iv _ => 1 - (intOf iv).toNat)
  case atStart => exact ⟨0, by omega, rfl, hid (by rw [HSS.out]; exact T1.out), hid (by rw [HX.out]; exact J1.out), G1, CB, KU1⟩
  case round =>
    obtain ⟨k, hk, rfl, FE, FB, FR, FC, FK⟩ := hrel
    rcases Nat.lt_or_ge k 1 with hlt | hge
    · obtain rfl : k = 0 := by omega
      have XI : Hid (xs 0 = x0) := hid (by rw [HX.out]; rfl)
      have SI : Hid (ss 0 = s0) := hid (by rw [HSS.out]; rfl)
      obtain ⟨cf, ff⟩ := five_cells FC.out 0
      change wr.cell? ⟨g, 0, none⟩ = some (fnV 94 (w.heap.size + 1)) at cf
      unfold fnV at cf
      clear ff
      go_wp2_with fail
      refine (dTo_any wr B p (w.heap.size + 1) v (ss 0) (xs 0) FE.out (by have := HW0.out; omega) FB.out (by have := HP.out; omega)).mono ?_
      rintro e u2 ⟨rfl, ey, jb, kk⟩
      have T2 := hid ey
      have J2 := hid jb
      have G2 := hid ((kk.block w.heap.size (lt_of_block FR.out) (by have := HP.out; simp; omega)).trans FR.out)
      have C2 := hid ((kk.block g (lt_of_block FC.out) (by have := HG.out; simp; omega)).trans FC.out)
      have K2 := hid (FK.out.trans' kk (fun i hi hm => by simp at hm ⊢; omega))
      clear ey jb kk cf
      go_wp2_with fail
      go_roundw
      case rel => exact ⟨1, by omega, by go_num, hid (by have := T2.out; rw [SI.out] at this; rw [HSS.out]; exact (EZ.out.2 ▸ this)), hid (by have := J2.out; rw [SI.out, XI.out] at this; rw [HX.out]; exact (EZ.out.1 ▸ this)), G2, C2, K2⟩
      case measure => simp [intOf]
    · obtain rfl : k = 1 := by omega
      have FE : Hid (EyL w0 wr B p v sz) := hid (by have := FE.out; rw [HSS.out] at this; exact this)
      have FB : Hid (wr.heap[w.heap.size + 1]? = some (.cells (rdCells p xz) 116 (0, 0))) := hid (by have := FB.out; rw [HX.out] at this; exact this)
      by_cases hz : sz.2 = 0
      · have HZ := hid hz
        have hzb : (sz.2 == 0) = true := by simpa using hz
        clear hz
        cases hm : mayL xz with
        | false =>
          have HM := hid hm
          clear hm
          go_wp2_with fail
          refine (FE.out.fail).mono ?_
          rintro e _ ⟨rfl, rfl⟩
          go_wp2_with (first | (refine wpList_isW rfl _ _ (exec_load _ _ _ _ rfl rfl (loadDl_run _ (w.heap.size + 1) 1 xz (range_rd FB.out))) ?_) | fail)
          refine (dMay_any _ xz).mono ?_
          rintro e u9 ⟨rfl, k9⟩
          rw [HM.out]
          have FE9 := hid (FE.out.more k9)
          have FR9 := hid ((k9.block _ (lt_of_block FR.out) (by simp)).trans FR.out)
          have FK9 := hid (FK.out.trans (k9.mono (by simp)))
          clear k9
          obtain ⟨r1, r2⟩ := setRow_keepsP (cs := dZ.cells.toArray) FR9.out
          have R1 := hid r1
          have R2 := hid r2
          clear r1 r2
          go_wp2_with (first | (refine wpList_is rfl _ _ (exec_buildDlZ rfl) ?_) | (refine wpList_noval rfl _ (exec_storeDl _ _ rfl w.heap.size rfl dZ 49 FR9.out dZ rfl) ?_) | fail)
          refine bodyPost_ret (dl_ret2 rfl rfl (range_dl R1.out) rfl) rfl ?_
          refine ⟨by rw [EQ.out]; unfold getO; rw [if_neg (by simp [HZ.out]), HM.out]; rfl, by rw [EQ.out]; exact FE9.out.later R2.out HW0.out (by have := HP.out; omega), FK9.out.trans' R2.out (fun i hi hm => by simp at hm; omega)⟩
        | true =>
          have HM := hid hm
          clear hm
          go_wp2_with fail
          refine (FE.out.fail).mono ?_
          rintro e _ ⟨rfl, rfl⟩
          go_wp2_with (first | (refine wpList_isW rfl _ _ (exec_load _ _ _ _ rfl rfl (loadDl_run _ (w.heap.size + 1) 1 xz (range_rd FB.out))) ?_) | fail)
          refine (dMay_any _ xz).mono ?_
          rintro e u9 ⟨rfl, k9⟩
          rw [HM.out]
          have FE9 := hid (FE.out.more k9)
          have FB9 := hid ((k9.block _ (lt_of_block FB.out) (by simp)).trans FB.out)
          have FR9 := hid ((k9.block _ (lt_of_block FR.out) (by simp)).trans FR.out)
          have FK9 := hid (FK.out.trans (k9.mono (by simp)))
          clear k9
          obtain ⟨r1, r2⟩ := setRow_keepsP (cs := xz.cells.toArray) FR9.out
          have R1 := hid r1
          have R2 := hid r2
          clear r1 r2
          go_wp2_with (first | (refine wpList_isW rfl _ _ (exec_load _ _ _ _ rfl rfl (loadDl_run _ (w.heap.size + 1) 1 xz (range_rd FB9.out))) ?_) | (refine wpList_noval rfl _ (exec_storeDl _ _ rfl w.heap.size rfl dZ 49 FR9.out xz rfl) ?_) | fail)
          refine bodyPost_ret (dl_ret2 rfl rfl (range_dl R1.out) rfl) rfl ?_
          refine ⟨by rw [EQ.out]; unfold getO; rw [if_neg (by simp [HZ.out]), if_pos HM.out]; rfl, by rw [EQ.out]; exact FE9.out.later R2.out HW0.out (by have := HP.out; omega), FK9.out.trans' R2.out (fun i hi hm => by simp at hm; omega)⟩
      · have HZ := hid hz
        have hzb : (sz.2 == 0) = false := by simpa using hz
        clear hz
        obtain ⟨r1, r2⟩ := setRow_keepsP (cs := dZ.cells.toArray) FR.out
        have R1 := hid r1
        have R2 := hid r2
        clear r1 r2
        go_wp2_with fail
        refine (FE.out.fail).mono ?_
        rintro e _ ⟨rfl, rfl⟩
        go_wp2_with (first | (refine wpList_is rfl _ _ (exec_buildDlZ rfl) ?_) | (refine wpList_noval rfl _ (exec_storeDl _ _ rfl w.heap.size rfl dZ 49 FR.out dZ rfl) ?_) | fail)
        refine bodyPost_ret (dl_ret2 rfl rfl (range_dl R1.out) rfl) rfl ?_
        refine ⟨by rw [EQ.out]; unfold getO; rw [if_pos HZ.out]; rfl, by rw [EQ.out]; exact FE.out.later R2.out HW0.out (by have := HP.out; omega), FK.out.trans' R2.out (fun i hi hm => by simp at hm; omega)⟩

set_option maxHeartbeats 12800000 in
theorem dGet3_any {w0 : World} (w : World) (B p : Nat) (v : Value) (st : PSt) (h : EyL w0 w B p v st) (hw0 : w0.heap.size ≤ w.heap.size) (hd : (headE st).1.d = 3) :
    Calls Try.prog 61 #[.pointer (some ⟨p, 0, none⟩)] w (GetPost w0 w B p v st) := by
  have HW0 := hid hw0
  have hpw := h.lt
  have HP := hid hpw
  have k1 : Keeps [] w (w.alloc (.cells dZ.cells.toArray 49)) := (Keeps.refl [] w).alloc _
  have k2 : Keeps [] w ((w.alloc (.cells dZ.cells.toArray 49)).alloc (.cells (rdCells p dZ) 116)) := k1.alloc _
  have E0 := hid (h.more k2)
  have D0 : Hid (((w.alloc (.cells dZ.cells.toArray 49)).alloc (.cells (rdCells p dZ) 116)).heap[w.heap.size]? = some (.cells dZ.cells.toArray 49 (0, 0))) := hid (((Keeps.refl [] (w.alloc (.cells dZ.cells.toArray 49))).alloc _).block _ (by simp) (by simp) |>.trans (heap_alloc_new w _))
  have b3 := heap_alloc_new (w.alloc (.cells dZ.cells.toArray 49)) (.cells (rdCells p dZ) 116)
  rw [World.size_alloc] at b3
  have C3 := hid b3
  have K0 := hid k2
  have HS0 := hid (show w.heap.size + 1 < ((w.alloc (.cells dZ.cells.toArray 49)).alloc (.cells (rdCells p dZ) 116)).heap.size by simp)
  obtain ⟨xz, sz, ez⟩ : ∃ x s, getC st = (x, s) := ⟨_, _, rfl⟩
  have EZ := hid (show ({ (headE st).1 with o := getA (headE st).2, t := getA (getP (headE st).2).2 } = xz ∧ (getP (getP (headE st).2).2).2 = sz) by
    unfold getC at ez
    rw [if_neg (by omega), if_pos hd] at ez
    simpa using ez)
  have EQ := hid ez
  obtain ⟨x0, s0, e0⟩ : ∃ x s, headE st = (x, s) := ⟨_, _, rfl⟩
  rw [e0] at EZ hd
  simp only at EZ hd
  have HN := hid (dNums_any ((w.alloc (.cells dZ.cells.toArray 49)).alloc (.cells (rdCells p dZ) 116)) B p (w.heap.size + 1) v st E0.out (by have := HW0.out; omega) C3.out (by have := HP.out; omega))
  rw [e0] at HN
  have HD := hid hd
  clear h hw0 hpw k1 k2 b3 ez e0 hd
  go_enter Try.func61, Try.ntmps61
  go_wp2_with (first | (refine wpList_is rfl _ _ (exec_alloc 49 dZ.cells.toArray iDelta rfl) ?_) | (refine wpList_is rfl _ _ (exec_buildRd _ p rfl rfl) ?_) | (refine wpList_is rfl _ _ (exec_box 116 _ (rdCells p dZ) rfl rfl) ?_) | fail)
  refine HN.out.mono ?_
  rintro e u0 ⟨rfl, ey, jb, kk⟩
  have T0 := hid ey
  have J0 := hid jb
  have G0 := hid ((kk.block w.heap.size (by have := HS0.out; omega) (by have := HP.out; simp; omega)).trans D0.out)
  have KU0 := hid ((K0.out.mono (S' := [p]) (by simp)).trans' kk (fun i hi hm => by simp at hm ⊢; omega))
  clear ey jb kk
  go_wp2_with fail
  refine (dPtrs3_any J0.out HD.out).mono ?_
  rintro e u1 ⟨rfl, hu⟩
  have kp : Keeps [] u0 u1 := by rw [hu]; exact (Keeps.refl [] u0).alloc _
  have CB : Hid (u1.heap[u0.heap.size]? = some (.cells #[fnV 95 (w.heap.size + 1), fnV 94 (w.heap.size + 1)] 1 (0, 0))) := hid (by rw [hu]; exact heap_alloc_new u0 _)
  have T1 := hid (T0.out.more kp)
  have J1 := hid ((kp.block _ (lt_of_block J0.out) (by simp)).trans J0.out)
  have G1 := hid ((kp.block _ (lt_of_block G0.out) (by simp)).trans G0.out)
  have KU1 := hid (KU0.out.trans (kp.mono (by simp)))
  have HG := hid (show u0.heap.size ≠ p ∧ u0.heap.size ≠ w.heap.size + 1 ∧ u0.heap.size ≠ w.heap.size by have := lt_of_block J0.out; have := HP.out; omega)
  clear hu kp
  generalize hgg : u0.heap.size = g at CB HG ⊢
  clear hgg
  go_wp2_with fail
  obtain ⟨xs, hxs⟩ : ∃ f : Nat → Dl, f = fun k => if k = 0 then x0 else if k = 1 then { x0 with o := getA s0 } else xz := ⟨_, rfl⟩
  obtain ⟨ss, hss⟩ : ∃ f : Nat → PSt, f = fun k => if k = 0 then s0 else if k = 1 then (getP s0).2 else sz := ⟨_, rfl⟩
  have HX := hid hxs
  have HSS := hid hss
  clear hxs hss
  go_loopw [16] (fun iv wr => ∃ k : Nat, k ≤ 2 ∧ iv = .int .i64 k ∧ Hid (EyL w0 wr B p v (ss k)) ∧ Hid (wr.heap[w.heap.size + 1]? = some (.cells (rdCells p (xs k)) 116 (0, 0))) ∧ Hid (wr.heap[w.heap.size]? = some (.cells dZ.cells.toArray 49 (0, 0))) ∧ Hid (wr.heap[g]? = some (.cells #[fnV 95 (w.heap.size + 1), fnV 94 (w.heap.size + 1)] 1 (0, 0))) ∧ Hid (Keeps [p] w wr)) (fun iv _ => 2 - (intOf iv).toNat)
  case atStart => exact ⟨0, by omega, rfl, hid (by rw [HSS.out]; exact T1.out), hid (by rw [HX.out]; exact J1.out), G1, CB, KU1⟩
  case round =>
    obtain ⟨k, hk, rfl, FE, FB, FR, FC, FK⟩ := hrel
    rcases Nat.lt_or_ge k 1 with hlt | hge
    · obtain rfl : k = 0 := by omega
      have XI : Hid (xs 0 = x0) := hid (by rw [HX.out]; rfl)
      have SI : Hid (ss 0 = s0) := hid (by rw [HSS.out]; rfl)
      obtain ⟨cf, ff⟩ := five_cells FC.out 0
      change wr.cell? ⟨g, 0, none⟩ = some (fnV 95 (w.heap.size + 1)) at cf
      unfold fnV at cf
      clear ff
      go_wp2_with fail
      refine (dOld_any wr B p (w.heap.size + 1) v (ss 0) (xs 0) FE.out (by have := HW0.out; omega) FB.out (by have := HP.out; omega)).mono ?_
      rintro e u2 ⟨rfl, ey, jb, kk⟩
      have T2 := hid ey
      have J2 := hid jb
      have G2 := hid ((kk.block w.heap.size (lt_of_block FR.out) (by have := HP.out; simp; omega)).trans FR.out)
      have C2 := hid ((kk.block g (lt_of_block FC.out) (by have := HG.out; simp; omega)).trans FC.out)
      have K2 := hid (FK.out.trans' kk (fun i hi hm => by simp at hm ⊢; omega))
      clear ey jb kk cf
      go_wp2_with fail
      go_roundw
      case rel => exact ⟨1, by omega, by go_num, hid (by have := T2.out; rw [SI.out] at this; rw [HSS.out]; exact this), hid (by have := J2.out; rw [SI.out, XI.out] at this; rw [HX.out]; exact this), G2, C2, K2⟩
      case measure => simp [intOf]
    rcases Nat.lt_or_ge k 2 with hlt | hge2
    · obtain rfl : k = 1 := by omega
      have XI : Hid (xs 1 = { x0 with o := getA s0 }) := hid (by rw [HX.out]; rfl)
      have SI : Hid (ss 1 = (getP s0).2) := hid (by rw [HSS.out]; rfl)
      obtain ⟨cf, ff⟩ := five_cells FC.out 1
      change wr.cell? ⟨g, 1, none⟩ = some (fnV 94 (w.heap.size + 1)) at cf
      unfold fnV at cf
      clear ff
      go_wp2_with fail
      refine (dTo_any wr B p (w.heap.size + 1) v (ss 1) (xs 1) FE.out (by have := HW0.out; omega) FB.out (by have := HP.out; omega)).mono ?_
      rintro e u2 ⟨rfl, ey, jb, kk⟩
      have T2 := hid ey
      have J2 := hid jb
      have G2 := hid ((kk.block w.heap.size (lt_of_block FR.out) (by have := HP.out; simp; omega)).trans FR.out)
      have C2 := hid ((kk.block g (lt_of_block FC.out) (by have := HG.out; simp; omega)).trans FC.out)
      have K2 := hid (FK.out.trans' kk (fun i hi hm => by simp at hm ⊢; omega))
      clear ey jb kk cf
      go_wp2_with fail
      go_roundw
      case rel => exact ⟨2, by omega, by go_num, hid (by have := T2.out; rw [SI.out] at this; rw [HSS.out]; exact (EZ.out.2 ▸ this)), hid (by have := J2.out; rw [SI.out, XI.out] at this; rw [HX.out]; exact (EZ.out.1 ▸ this)), G2, C2, K2⟩
      case measure => simp [intOf]
    · obtain rfl : k = 2 := by omega
      have FE : Hid (EyL w0 wr B p v sz) := hid (by have := FE.out; rw [HSS.out] at this; exact this)
      have FB : Hid (wr.heap[w.heap.size + 1]? = some (.cells (rdCells p xz) 116 (0, 0))) := hid (by have := FB.out; rw [HX.out] at this; exact this)
      by_cases hz : sz.2 = 0
      · have HZ := hid hz
        have hzb : (sz.2 == 0) = true := by simpa using hz
        clear hz
        cases hm : mayL xz with
        | false =>
          have HM := hid hm
          clear hm
          go_wp2_with fail
          refine (FE.out.fail).mono ?_
          rintro e _ ⟨rfl, rfl⟩
          go_wp2_with (first | (refine wpList_isW rfl _ _ (exec_load _ _ _ _ rfl rfl (loadDl_run _ (w.heap.size + 1) 1 xz (range_rd FB.out))) ?_) | fail)
          refine (dMay_any _ xz).mono ?_
          rintro e u9 ⟨rfl, k9⟩
          rw [HM.out]
          have FE9 := hid (FE.out.more k9)
          have FR9 := hid ((k9.block _ (lt_of_block FR.out) (by simp)).trans FR.out)
          have FK9 := hid (FK.out.trans (k9.mono (by simp)))
          clear k9
          obtain ⟨r1, r2⟩ := setRow_keepsP (cs := dZ.cells.toArray) FR9.out
          have R1 := hid r1
          have R2 := hid r2
          clear r1 r2
          go_wp2_with (first | (refine wpList_is rfl _ _ (exec_buildDlZ rfl) ?_) | (refine wpList_noval rfl _ (exec_storeDl _ _ rfl w.heap.size rfl dZ 49 FR9.out dZ rfl) ?_) | fail)
          refine bodyPost_ret (dl_ret2 rfl rfl (range_dl R1.out) rfl) rfl ?_
          refine ⟨by rw [EQ.out]; unfold getO; rw [if_neg (by simp [HZ.out]), HM.out]; rfl, by rw [EQ.out]; exact FE9.out.later R2.out HW0.out (by have := HP.out; omega), FK9.out.trans' R2.out (fun i hi hm => by simp at hm; omega)⟩
        | true =>
          have HM := hid hm
          clear hm
          go_wp2_with fail
          refine (FE.out.fail).mono ?_
          rintro e _ ⟨rfl, rfl⟩
          go_wp2_with (first | (refine wpList_isW rfl _ _ (exec_load _ _ _ _ rfl rfl (loadDl_run _ (w.heap.size + 1) 1 xz (range_rd FB.out))) ?_) | fail)
          refine (dMay_any _ xz).mono ?_
          rintro e u9 ⟨rfl, k9⟩
          rw [HM.out]
          have FE9 := hid (FE.out.more k9)
          have FB9 := hid ((k9.block _ (lt_of_block FB.out) (by simp)).trans FB.out)
          have FR9 := hid ((k9.block _ (lt_of_block FR.out) (by simp)).trans FR.out)
          have FK9 := hid (FK.out.trans (k9.mono (by simp)))
          clear k9
          obtain ⟨r1, r2⟩ := setRow_keepsP (cs := xz.cells.toArray) FR9.out
          have R1 := hid r1
          have R2 := hid r2
          clear r1 r2
          go_wp2_with (first | (refine wpList_isW rfl _ _ (exec_load _ _ _ _ rfl rfl (loadDl_run _ (w.heap.size + 1) 1 xz (range_rd FB9.out))) ?_) | (refine wpList_noval rfl _ (exec_storeDl _ _ rfl w.heap.size rfl dZ 49 FR9.out xz rfl) ?_) | fail)
          refine bodyPost_ret (dl_ret2 rfl rfl (range_dl R1.out) rfl) rfl ?_
          refine ⟨by rw [EQ.out]; unfold getO; rw [if_neg (by simp [HZ.out]), if_pos HM.out]; rfl, by rw [EQ.out]; exact FE9.out.later R2.out HW0.out (by have := HP.out; omega), FK9.out.trans' R2.out (fun i hi hm => by simp at hm; omega)⟩
      · have HZ := hid hz
        have hzb : (sz.2 == 0) = false := by simpa using hz
        clear hz
        obtain ⟨r1, r2⟩ := setRow_keepsP (cs := dZ.cells.toArray) FR.out
        have R1 := hid r1
        have R2 := hid r2
        clear r1 r2
        go_wp2_with fail
        refine (FE.out.fail).mono ?_
        rintro e _ ⟨rfl, rfl⟩
        go_wp2_with (first | (refine wpList_is rfl _ _ (exec_buildDlZ rfl) ?_) | (refine wpList_noval rfl _ (exec_storeDl _ _ rfl w.heap.size rfl dZ 49 FR.out dZ rfl) ?_) | fail)
        refine bodyPost_ret (dl_ret2 rfl rfl (range_dl R1.out) rfl) rfl ?_
        refine ⟨by rw [EQ.out]; unfold getO; rw [if_pos HZ.out]; rfl, by rw [EQ.out]; exact FE.out.later R2.out HW0.out (by have := HP.out; omega), FK.out.trans' R2.out (fun i hi hm => by simp at hm; omega)⟩

set_option maxHeartbeats 12800000 in
theorem dGet0_any {w0 : World} (w : World) (B p : Nat) (v : Value) (st : PSt) (h : EyL w0 w B p v st) (hw0 : w0.heap.size ≤ w.heap.size) (h1 : (headE st).1.d ≠ 1) (h3 : (headE st).1.d ≠ 3) :
    Calls Try.prog 61 #[.pointer (some ⟨p, 0, none⟩)] w (GetPost w0 w B p v st) := by
  have HW0 := hid hw0
  have hpw := h.lt
  have HP := hid hpw
  have k1 : Keeps [] w (w.alloc (.cells dZ.cells.toArray 49)) := (Keeps.refl [] w).alloc _
  have k2 : Keeps [] w ((w.alloc (.cells dZ.cells.toArray 49)).alloc (.cells (rdCells p dZ) 116)) := k1.alloc _
  have E0 := hid (h.more k2)
  have D0 : Hid (((w.alloc (.cells dZ.cells.toArray 49)).alloc (.cells (rdCells p dZ) 116)).heap[w.heap.size]? = some (.cells dZ.cells.toArray 49 (0, 0))) := hid (((Keeps.refl [] (w.alloc (.cells dZ.cells.toArray 49))).alloc _).block _ (by simp) (by simp) |>.trans (heap_alloc_new w _))
  have b3 := heap_alloc_new (w.alloc (.cells dZ.cells.toArray 49)) (.cells (rdCells p dZ) 116)
  rw [World.size_alloc] at b3
  have C3 := hid b3
  have K0 := hid k2
  have HS0 := hid (show w.heap.size + 1 < ((w.alloc (.cells dZ.cells.toArray 49)).alloc (.cells (rdCells p dZ) 116)).heap.size by simp)
  obtain ⟨xz, sz, ez⟩ : ∃ x s, getC st = (x, s) := ⟨_, _, rfl⟩
  have EZ := hid (show (headE st).1 = xz ∧ (headE st).2 = sz by
    unfold getC at ez
    rw [if_neg h1, if_neg h3] at ez
    rw [ez]; exact ⟨rfl, rfl⟩)
  have EQ := hid ez
  obtain ⟨x0, s0, e0⟩ : ∃ x s, headE st = (x, s) := ⟨_, _, rfl⟩
  rw [e0] at EZ h1 h3
  simp only at EZ h1 h3
  have HN := hid (dNums_any ((w.alloc (.cells dZ.cells.toArray 49)).alloc (.cells (rdCells p dZ) 116)) B p (w.heap.size + 1) v st E0.out (by have := HW0.out; omega) C3.out (by have := HP.out; omega))
  rw [e0] at HN
  have HD := hid (And.intro h1 h3)
  clear h hw0 hpw k1 k2 b3 ez e0 h1 h3
  go_enter Try.func61, Try.ntmps61
  go_wp2_with (first | (refine wpList_is rfl _ _ (exec_alloc 49 dZ.cells.toArray iDelta rfl) ?_) | (refine wpList_is rfl _ _ (exec_buildRd _ p rfl rfl) ?_) | (refine wpList_is rfl _ _ (exec_box 116 _ (rdCells p dZ) rfl rfl) ?_) | fail)
  refine HN.out.mono ?_
  rintro e u0 ⟨rfl, ey, jb, kk⟩
  have T0 := hid ey
  have J0 := hid jb
  have G0 := hid ((kk.block w.heap.size (by have := HS0.out; omega) (by have := HP.out; simp; omega)).trans D0.out)
  have KU0 := hid ((K0.out.mono (S' := [p]) (by simp)).trans' kk (fun i hi hm => by simp at hm ⊢; omega))
  clear ey jb kk
  go_wp2_with fail
  refine (dPtrs0_any J0.out HD.out.1 HD.out.2).mono ?_
  rintro e u1 ⟨rfl, hu⟩
  rw [hu]
  clear hu
  go_wp2_with fail
  go_loopw [16] (fun iv wr => iv = .int .i64 0 ∧ u0 = wr) (fun _ _ => 0)
  case atStart => exact ⟨rfl, rfl⟩
  case round =>
    obtain ⟨rfl, hw⟩ := hrel
    rw [← hw]
    clear hw
    have FE : Hid (EyL w0 u0 B p v sz) := hid (EZ.out.2 ▸ T0.out)
    have FB : Hid (u0.heap[w.heap.size + 1]? = some (.cells (rdCells p xz) 116 (0, 0))) := hid (EZ.out.1 ▸ J0.out)
    have FR := G0
    have FK := KU0
    by_cases hz : sz.2 = 0
    · have HZ := hid hz
      have hzb : (sz.2 == 0) = true := by simpa using hz
      clear hz
      cases hm : mayL xz with
      | false =>
        have HM := hid hm
        clear hm
        go_wp2_with fail
        refine (FE.out.fail).mono ?_
        rintro e _ ⟨rfl, rfl⟩
        go_wp2_with (first | (refine wpList_isW rfl _ _ (exec_load _ _ _ _ rfl rfl (loadDl_run _ (w.heap.size + 1) 1 xz (range_rd FB.out))) ?_) | fail)
        refine (dMay_any _ xz).mono ?_
        rintro e u9 ⟨rfl, k9⟩
        rw [HM.out]
        have FE9 := hid (FE.out.more k9)
        have FR9 := hid ((k9.block _ (lt_of_block FR.out) (by simp)).trans FR.out)
        have FK9 := hid (FK.out.trans (k9.mono (by simp)))
        clear k9
        obtain ⟨r1, r2⟩ := setRow_keepsP (cs := dZ.cells.toArray) FR9.out
        have R1 := hid r1
        have R2 := hid r2
        clear r1 r2
        go_wp2_with (first | (refine wpList_is rfl _ _ (exec_buildDlZ rfl) ?_) | (refine wpList_noval rfl _ (exec_storeDl _ _ rfl w.heap.size rfl dZ 49 FR9.out dZ rfl) ?_) | fail)
        refine bodyPost_ret (dl_ret2 rfl rfl (range_dl R1.out) rfl) rfl ?_
        refine ⟨by rw [EQ.out]; unfold getO; rw [if_neg (by simp [HZ.out]), HM.out]; rfl, by rw [EQ.out]; exact FE9.out.later R2.out HW0.out (by have := HP.out; omega), FK9.out.trans' R2.out (fun i hi hm => by simp at hm; omega)⟩
      | true =>
        have HM := hid hm
        clear hm
        go_wp2_with fail
        refine (FE.out.fail).mono ?_
        rintro e _ ⟨rfl, rfl⟩
        go_wp2_with (first | (refine wpList_isW rfl _ _ (exec_load _ _ _ _ rfl rfl (loadDl_run _ (w.heap.size + 1) 1 xz (range_rd FB.out))) ?_) | fail)
        refine (dMay_any _ xz).mono ?_
        rintro e u9 ⟨rfl, k9⟩
        rw [HM.out]
        have FE9 := hid (FE.out.more k9)
        have FB9 := hid ((k9.block _ (lt_of_block FB.out) (by simp)).trans FB.out)
        have FR9 := hid ((k9.block _ (lt_of_block FR.out) (by simp)).trans FR.out)
        have FK9 := hid (FK.out.trans (k9.mono (by simp)))
        clear k9
        obtain ⟨r1, r2⟩ := setRow_keepsP (cs := xz.cells.toArray) FR9.out
        have R1 := hid r1
        have R2 := hid r2
        clear r1 r2
        go_wp2_with (first | (refine wpList_isW rfl _ _ (exec_load _ _ _ _ rfl rfl (loadDl_run _ (w.heap.size + 1) 1 xz (range_rd FB9.out))) ?_) | (refine wpList_noval rfl _ (exec_storeDl _ _ rfl w.heap.size rfl dZ 49 FR9.out xz rfl) ?_) | fail)
        refine bodyPost_ret (dl_ret2 rfl rfl (range_dl R1.out) rfl) rfl ?_
        refine ⟨by rw [EQ.out]; unfold getO; rw [if_neg (by simp [HZ.out]), if_pos HM.out]; rfl, by rw [EQ.out]; exact FE9.out.later R2.out HW0.out (by have := HP.out; omega), FK9.out.trans' R2.out (fun i hi hm => by simp at hm; omega)⟩
    · have HZ := hid hz
      have hzb : (sz.2 == 0) = false := by simpa using hz
      clear hz
      obtain ⟨r1, r2⟩ := setRow_keepsP (cs := dZ.cells.toArray) FR.out
      have R1 := hid r1
      have R2 := hid r2
      clear r1 r2
      go_wp2_with fail
      refine (FE.out.fail).mono ?_
      rintro e _ ⟨rfl, rfl⟩
      go_wp2_with (first | (refine wpList_is rfl _ _ (exec_buildDlZ rfl) ?_) | (refine wpList_noval rfl _ (exec_storeDl _ _ rfl w.heap.size rfl dZ 49 FR.out dZ rfl) ?_) | fail)
      refine bodyPost_ret (dl_ret2 rfl rfl (range_dl R1.out) rfl) rfl ?_
      refine ⟨by rw [EQ.out]; unfold getO; rw [if_pos HZ.out]; rfl, by rw [EQ.out]; exact FE.out.later R2.out HW0.out (by have := HP.out; omega), FK.out.trans' R2.out (fun i hi hm => by simp at hm; omega)⟩

theorem dGet_any {w0 : World} (w : World) (B p : Nat) (v : Value) (st : PSt) (h : EyL w0 w B p v st) (hw0 : w0.heap.size ≤ w.heap.size) :
    Calls Try.prog 61 #[.pointer (some ⟨p, 0, none⟩)] w (GetPost w0 w B p v st) := by
  by_cases h1 : (headE st).1.d = 1
  · exact dGet1_any w B p v st h hw0 h1
  · by_cases h3 : (headE st).1.d = 3
    · exact dGet3_any w B p v st h hw0 h3
    · exact dGet0_any w B p v st h hw0 h1 h3
end Go.Proofs.Ytamcllcjondcpaa


/- delta: the reference's MayDelta. -/
namespace Go.Proofs.Ytamcllcjondcpaa
open Go.RowKit Go.Shelf
set_option maxRecDepth 100000
set_option linter.unusedSimpArgs false

set_option maxHeartbeats 12800000 in
theorem rdMay_any (w : World) (x : Dl) : Calls Try.prog 22 #[dlV x] w (MayPost w (mayL x)) := by
  have ka : Keeps [] w (w.alloc (.cells x.cells.toArray 49)) := (Keeps.refl [] w).alloc _
  have kb : Keeps [] (w.alloc (.cells x.cells.toArray 49)) ((w.alloc (.cells x.cells.toArray 49)).alloc (.cells pZ.cells.toArray 47)) := (Keeps.refl [] _).alloc _
  have d2 := (dl_range (range_new w x.cells 49)).keep kb (by simp)
  have D2 := hid d2
  have rz := range_new (w.alloc (.cells x.cells.toArray 49)) pZ.cells 47
  rw [World.size_alloc] at rz
  have RZ := hid rz
  have KB := hid (ka.trans kb)
  have HS := hid (show w.heap.size + 1 < ((w.alloc (.cells x.cells.toArray 49)).alloc (.cells pZ.cells.toArray 47)).heap.size by simp)
  have c0 := d2.c0
  have c1 := d2.c1
  have c2 := d2.c2
  have c3 := d2.c3
  simp only [Nat.zero_add] at c1 c2 c3
  obtain ⟨r, hr⟩ : ∃ r, r = mayL x := ⟨_, rfl⟩
  rw [← hr]
  unfold mayL at hr
  have HR := hid hr
  clear ka kb d2 rz hr
  by_cases h0 : x.i < 2
  · have E := hid (show btw x.i 2 128 = false by simp [btw]; omega)
    clear c0
    go_enter Try.func22, Try.ntmps22
    go_wp2_with (first | go_big_skip | (refine wpList_is rfl _ _ (exec_box 49 _ x.cells.toArray rfl rfl) ?_) | (refine wpList_is rfl _ _ (exec_alloc 47 pZ.cells.toArray iPtr2 rfl) ?_) | (refine wpList_is rfl _ _ (exec_buildPtZ rfl) ?_) | (refine wpList_noval rfl _ (exec_storeNew 47 _ _ rfl (w.alloc (.cells x.cells.toArray 49)) pZ.cells.toArray pZ.cells.toArray rfl rfl rfl iPtr2 rfl (cells_one pZ)) ?_) | (refine wpList_isW rfl _ _ (exec_load _ _ _ _ rfl rfl (loadPt_run _ w.heap.size (0 + 4) x.t D2.out.t)) ?_) | fail)
    go_ret
    exact retD (by rw [HR.out, E.out]; simp) KB.out
  · skip
    by_cases h1 : 128 < x.i
    · have E := hid (show btw x.i 2 128 = false by simp [btw]; omega)
      clear c0
      go_enter Try.func22, Try.ntmps22
      go_wp2_with (first | go_big_skip | (refine wpList_is rfl _ _ (exec_box 49 _ x.cells.toArray rfl rfl) ?_) | (refine wpList_is rfl _ _ (exec_alloc 47 pZ.cells.toArray iPtr2 rfl) ?_) | (refine wpList_is rfl _ _ (exec_buildPtZ rfl) ?_) | (refine wpList_noval rfl _ (exec_storeNew 47 _ _ rfl (w.alloc (.cells x.cells.toArray 49)) pZ.cells.toArray pZ.cells.toArray rfl rfl rfl iPtr2 rfl (cells_one pZ)) ?_) | (refine wpList_isW rfl _ _ (exec_load _ _ _ _ rfl rfl (loadPt_run _ w.heap.size (0 + 4) x.t D2.out.t)) ?_) | fail)
      go_ret
      exact retD (by rw [HR.out, E.out]; simp) KB.out
    · skip
      by_cases h2 : x.b < 0
      · have E := hid (show btw x.b 0 63 = false by simp [btw]; omega)
        clear c0
        go_enter Try.func22, Try.ntmps22
        go_wp2_with (first | go_big_skip | (refine wpList_is rfl _ _ (exec_box 49 _ x.cells.toArray rfl rfl) ?_) | (refine wpList_is rfl _ _ (exec_alloc 47 pZ.cells.toArray iPtr2 rfl) ?_) | (refine wpList_is rfl _ _ (exec_buildPtZ rfl) ?_) | (refine wpList_noval rfl _ (exec_storeNew 47 _ _ rfl (w.alloc (.cells x.cells.toArray 49)) pZ.cells.toArray pZ.cells.toArray rfl rfl rfl iPtr2 rfl (cells_one pZ)) ?_) | (refine wpList_isW rfl _ _ (exec_load _ _ _ _ rfl rfl (loadPt_run _ w.heap.size (0 + 4) x.t D2.out.t)) ?_) | fail)
        go_ret
        exact retD (by rw [HR.out, E.out]; simp) KB.out
      · skip
        by_cases h3 : 64 ≤ x.b
        · have E := hid (show btw x.b 0 63 = false by simp [btw]; omega)
          clear c0
          go_enter Try.func22, Try.ntmps22
          go_wp2_with (first | go_big_skip | (refine wpList_is rfl _ _ (exec_box 49 _ x.cells.toArray rfl rfl) ?_) | (refine wpList_is rfl _ _ (exec_alloc 47 pZ.cells.toArray iPtr2 rfl) ?_) | (refine wpList_is rfl _ _ (exec_buildPtZ rfl) ?_) | (refine wpList_noval rfl _ (exec_storeNew 47 _ _ rfl (w.alloc (.cells x.cells.toArray 49)) pZ.cells.toArray pZ.cells.toArray rfl rfl rfl iPtr2 rfl (cells_one pZ)) ?_) | (refine wpList_isW rfl _ _ (exec_load _ _ _ _ rfl rfl (loadPt_run _ w.heap.size (0 + 4) x.t D2.out.t)) ?_) | fail)
          go_ret
          exact retD (by rw [HR.out, E.out]; simp) KB.out
        · skip
          by_cases h4 : x.s < 0
          · have E := hid (show btw x.s 0 4096 = false by simp [btw]; omega)
            clear c0
            go_enter Try.func22, Try.ntmps22
            go_wp2_with (first | go_big_skip | (refine wpList_is rfl _ _ (exec_box 49 _ x.cells.toArray rfl rfl) ?_) | (refine wpList_is rfl _ _ (exec_alloc 47 pZ.cells.toArray iPtr2 rfl) ?_) | (refine wpList_is rfl _ _ (exec_buildPtZ rfl) ?_) | (refine wpList_noval rfl _ (exec_storeNew 47 _ _ rfl (w.alloc (.cells x.cells.toArray 49)) pZ.cells.toArray pZ.cells.toArray rfl rfl rfl iPtr2 rfl (cells_one pZ)) ?_) | (refine wpList_isW rfl _ _ (exec_load _ _ _ _ rfl rfl (loadPt_run _ w.heap.size (0 + 4) x.t D2.out.t)) ?_) | fail)
            go_ret
            exact retD (by rw [HR.out, E.out]; simp) KB.out
          · skip
            by_cases h5 : 4096 < x.s
            · have E := hid (show btw x.s 0 4096 = false by simp [btw]; omega)
              clear c0
              go_enter Try.func22, Try.ntmps22
              go_wp2_with (first | go_big_skip | (refine wpList_is rfl _ _ (exec_box 49 _ x.cells.toArray rfl rfl) ?_) | (refine wpList_is rfl _ _ (exec_alloc 47 pZ.cells.toArray iPtr2 rfl) ?_) | (refine wpList_is rfl _ _ (exec_buildPtZ rfl) ?_) | (refine wpList_noval rfl _ (exec_storeNew 47 _ _ rfl (w.alloc (.cells x.cells.toArray 49)) pZ.cells.toArray pZ.cells.toArray rfl rfl rfl iPtr2 rfl (cells_one pZ)) ?_) | (refine wpList_isW rfl _ _ (exec_load _ _ _ _ rfl rfl (loadPt_run _ w.heap.size (0 + 4) x.t D2.out.t)) ?_) | fail)
              go_ret
              exact retD (by rw [HR.out, E.out]; simp) KB.out
            · skip
              have B := hid (show (btw x.i 2 128 && btw x.b 0 63 && btw x.s 0 4096) = true by simp [btw]; omega)
              rw [B.out, Bool.true_and] at HR
              cases m1 : mayP x.t with
              | false =>
                have M1 := hid m1
                clear m1 c0
                go_enter Try.func22, Try.ntmps22
                go_wp2_with (first | go_big_skip | (refine wpList_is rfl _ _ (exec_box 49 _ x.cells.toArray rfl rfl) ?_) | (refine wpList_is rfl _ _ (exec_alloc 47 pZ.cells.toArray iPtr2 rfl) ?_) | (refine wpList_is rfl _ _ (exec_buildPtZ rfl) ?_) | (refine wpList_noval rfl _ (exec_storeNew 47 _ _ rfl (w.alloc (.cells x.cells.toArray 49)) pZ.cells.toArray pZ.cells.toArray rfl rfl rfl iPtr2 rfl (cells_one pZ)) ?_) | (refine wpList_isW rfl _ _ (exec_load _ _ _ _ rfl rfl (loadPt_run _ w.heap.size (0 + 4) x.t D2.out.t)) ?_) | fail)
                refine (rMayPtr_any _ x.t).mono ?_
                rintro e w3 ⟨rfl, k3⟩
                rw [M1.out]
                have K3 := hid k3
                clear k3 c1 c2 c3
                go_wp2_with fail
                go_ret
                exact retD (by rw [HR.out, M1.out]; rfl) (KB.out.trans K3.out)
              | true =>
                have M1 := hid m1
                clear m1
                cases m2 : mayP x.o with
                | false =>
                  have M2 := hid m2
                  clear m2 c0
                  go_enter Try.func22, Try.ntmps22
                  go_wp2_with (first | go_big_skip | (refine wpList_is rfl _ _ (exec_box 49 _ x.cells.toArray rfl rfl) ?_) | (refine wpList_is rfl _ _ (exec_alloc 47 pZ.cells.toArray iPtr2 rfl) ?_) | (refine wpList_is rfl _ _ (exec_buildPtZ rfl) ?_) | (refine wpList_noval rfl _ (exec_storeNew 47 _ _ rfl (w.alloc (.cells x.cells.toArray 49)) pZ.cells.toArray pZ.cells.toArray rfl rfl rfl iPtr2 rfl (cells_one pZ)) ?_) | (refine wpList_isW rfl _ _ (exec_load _ _ _ _ rfl rfl (loadPt_run _ w.heap.size (0 + 4) x.t D2.out.t)) ?_) | fail)
                  refine (rMayPtr_any _ x.t).mono ?_
                  rintro e w3 ⟨rfl, k3⟩
                  rw [M1.out]
                  have K3 := hid k3
                  clear k3
                  go_wp2_with (first | (refine wpList_isW rfl _ _ (exec_load _ _ _ _ rfl rfl (loadPt_run _ w.heap.size (0 + 9) x.o (range_keep D2.out.o K3.out (by simp)))) ?_) | fail)
                  refine (rMayPtr_any _ x.o).mono ?_
                  rintro e w4 ⟨rfl, k4⟩
                  rw [M2.out]
                  have K4 := hid (K3.out.trans k4)
                  have d4 := D2.out.keep K4.out (by simp)
                  have c0 := d4.c0
                  have c2 := d4.c2
                  have c3 := d4.c3
                  simp only [Nat.zero_add] at c2 c3
                  clear k4 d4
                  go_wp2_with fail
                  go_ret
                  exact retD (by rw [HR.out, M1.out, M2.out]; rfl) (KB.out.trans K4.out)
                | true =>
                  have M2 := hid m2
                  clear m2
                  rw [M1.out, M2.out, Bool.true_and, Bool.true_and] at HR
                  unfold kindD at HR
                  by_cases h7 : x.d = 1
                  · have e1 : (x.d == 1) = true := by simpa using h7
                    rw [if_pos h7] at HR
                    clear h7
                    go_enter Try.func22, Try.ntmps22
                    go_wp2_with (first | go_big_skip | (refine wpList_is rfl _ _ (exec_box 49 _ x.cells.toArray rfl rfl) ?_) | (refine wpList_is rfl _ _ (exec_alloc 47 pZ.cells.toArray iPtr2 rfl) ?_) | (refine wpList_is rfl _ _ (exec_buildPtZ rfl) ?_) | (refine wpList_noval rfl _ (exec_storeNew 47 _ _ rfl (w.alloc (.cells x.cells.toArray 49)) pZ.cells.toArray pZ.cells.toArray rfl rfl rfl iPtr2 rfl (cells_one pZ)) ?_) | (refine wpList_isW rfl _ _ (exec_load _ _ _ _ rfl rfl (loadPt_run _ w.heap.size (0 + 4) x.t D2.out.t)) ?_) | fail)
                    refine (rMayPtr_any _ x.t).mono ?_
                    rintro e w3 ⟨rfl, k3⟩
                    rw [M1.out]
                    have K3 := hid k3
                    clear k3
                    go_wp2_with (first | (refine wpList_isW rfl _ _ (exec_load _ _ _ _ rfl rfl (loadPt_run _ w.heap.size (0 + 9) x.o (range_keep D2.out.o K3.out (by simp)))) ?_) | fail)
                    refine (rMayPtr_any _ x.o).mono ?_
                    rintro e w4 ⟨rfl, k4⟩
                    rw [M2.out]
                    have K4 := hid (K3.out.trans k4)
                    have d4 := D2.out.keep K4.out (by simp)
                    have c0 := d4.c0
                    have c2 := d4.c2
                    have c3 := d4.c3
                    simp only [Nat.zero_add] at c2 c3
                    clear k4 d4
                    go_wp2_with (first | go_big_skip | (refine wpList_isW rfl _ _ (exec_load _ _ _ _ rfl rfl (loadPt_run _ w.heap.size (0 + 9) x.o (range_keep D2.out.o K4.out (by simp)))) ?_) | (refine wpList_isW rfl _ _ (exec_load _ _ _ _ rfl rfl (loadPt_run _ w.heap.size (0 + 4) x.t (range_keep D2.out.t K4.out (by simp)))) ?_) | (refine wpList_isW rfl _ _ (exec_load _ _ _ _ rfl rfl (loadPt_run _ (w.heap.size + 1) 0 pZ (range_keep RZ.out K4.out (by simp)))) ?_) | (refine wpList_isW rfl _ _ (exec_eqPts _ _ _ x.o pZ rfl rfl rfl) ?_) | (refine wpList_isW rfl _ _ (exec_eqPts _ _ _ x.t pZ rfl rfl rfl) ?_) | fail)
                    go_ret
                    exact retD HR.out.symm (KB.out.trans K4.out)
                  · have e1 : (x.d == 1) = false := by simpa using h7
                    rw [if_neg h7] at HR
                    clear h7
                    by_cases h8 : x.d = 2
                    · have e2 : (x.d == 2) = true := by simpa using h8
                      rw [if_pos h8] at HR
                      clear h8
                      cases a2 : eqP x.o pZ with
                      | false =>
                        have HR' := hid (show r = false from by rw [HR.out, show zB x.o = eqP x.o pZ from rfl, a2]; simp)
                        go_enter Try.func22, Try.ntmps22
                        go_wp2_with (first | go_big_skip | (refine wpList_is rfl _ _ (exec_box 49 _ x.cells.toArray rfl rfl) ?_) | (refine wpList_is rfl _ _ (exec_alloc 47 pZ.cells.toArray iPtr2 rfl) ?_) | (refine wpList_is rfl _ _ (exec_buildPtZ rfl) ?_) | (refine wpList_noval rfl _ (exec_storeNew 47 _ _ rfl (w.alloc (.cells x.cells.toArray 49)) pZ.cells.toArray pZ.cells.toArray rfl rfl rfl iPtr2 rfl (cells_one pZ)) ?_) | (refine wpList_isW rfl _ _ (exec_load _ _ _ _ rfl rfl (loadPt_run _ w.heap.size (0 + 4) x.t D2.out.t)) ?_) | fail)
                        refine (rMayPtr_any _ x.t).mono ?_
                        rintro e w3 ⟨rfl, k3⟩
                        rw [M1.out]
                        have K3 := hid k3
                        clear k3
                        go_wp2_with (first | (refine wpList_isW rfl _ _ (exec_load _ _ _ _ rfl rfl (loadPt_run _ w.heap.size (0 + 9) x.o (range_keep D2.out.o K3.out (by simp)))) ?_) | fail)
                        refine (rMayPtr_any _ x.o).mono ?_
                        rintro e w4 ⟨rfl, k4⟩
                        rw [M2.out]
                        have K4 := hid (K3.out.trans k4)
                        have d4 := D2.out.keep K4.out (by simp)
                        have c0 := d4.c0
                        have c2 := d4.c2
                        have c3 := d4.c3
                        simp only [Nat.zero_add] at c2 c3
                        clear k4 d4
                        go_wp2_with (first | go_big_skip | (refine wpList_isW rfl _ _ (exec_load _ _ _ _ rfl rfl (loadPt_run _ w.heap.size (0 + 9) x.o (range_keep D2.out.o K4.out (by simp)))) ?_) | (refine wpList_isW rfl _ _ (exec_load _ _ _ _ rfl rfl (loadPt_run _ w.heap.size (0 + 4) x.t (range_keep D2.out.t K4.out (by simp)))) ?_) | (refine wpList_isW rfl _ _ (exec_load _ _ _ _ rfl rfl (loadPt_run _ (w.heap.size + 1) 0 pZ (range_keep RZ.out K4.out (by simp)))) ?_) | (refine wpList_isW rfl _ _ (exec_eqPts _ _ _ x.o pZ rfl rfl rfl) ?_) | (refine wpList_isW rfl _ _ (exec_eqPts _ _ _ x.t pZ rfl rfl rfl) ?_) | fail)
                        go_ret
                        exact retD HR'.out.symm (KB.out.trans K4.out)
                      | true =>
                        cases a1 : eqP x.t pZ with
                        | false =>
                          have HR' := hid (show r = false from by rw [HR.out, show zB x.t = eqP x.t pZ from rfl, a1]; simp)
                          go_enter Try.func22, Try.ntmps22
                          go_wp2_with (first | go_big_skip | (refine wpList_is rfl _ _ (exec_box 49 _ x.cells.toArray rfl rfl) ?_) | (refine wpList_is rfl _ _ (exec_alloc 47 pZ.cells.toArray iPtr2 rfl) ?_) | (refine wpList_is rfl _ _ (exec_buildPtZ rfl) ?_) | (refine wpList_noval rfl _ (exec_storeNew 47 _ _ rfl (w.alloc (.cells x.cells.toArray 49)) pZ.cells.toArray pZ.cells.toArray rfl rfl rfl iPtr2 rfl (cells_one pZ)) ?_) | (refine wpList_isW rfl _ _ (exec_load _ _ _ _ rfl rfl (loadPt_run _ w.heap.size (0 + 4) x.t D2.out.t)) ?_) | fail)
                          refine (rMayPtr_any _ x.t).mono ?_
                          rintro e w3 ⟨rfl, k3⟩
                          rw [M1.out]
                          have K3 := hid k3
                          clear k3
                          go_wp2_with (first | (refine wpList_isW rfl _ _ (exec_load _ _ _ _ rfl rfl (loadPt_run _ w.heap.size (0 + 9) x.o (range_keep D2.out.o K3.out (by simp)))) ?_) | fail)
                          refine (rMayPtr_any _ x.o).mono ?_
                          rintro e w4 ⟨rfl, k4⟩
                          rw [M2.out]
                          have K4 := hid (K3.out.trans k4)
                          have d4 := D2.out.keep K4.out (by simp)
                          have c0 := d4.c0
                          have c2 := d4.c2
                          have c3 := d4.c3
                          simp only [Nat.zero_add] at c2 c3
                          clear k4 d4
                          go_wp2_with (first | go_big_skip | (refine wpList_isW rfl _ _ (exec_load _ _ _ _ rfl rfl (loadPt_run _ w.heap.size (0 + 9) x.o (range_keep D2.out.o K4.out (by simp)))) ?_) | (refine wpList_isW rfl _ _ (exec_load _ _ _ _ rfl rfl (loadPt_run _ w.heap.size (0 + 4) x.t (range_keep D2.out.t K4.out (by simp)))) ?_) | (refine wpList_isW rfl _ _ (exec_load _ _ _ _ rfl rfl (loadPt_run _ (w.heap.size + 1) 0 pZ (range_keep RZ.out K4.out (by simp)))) ?_) | (refine wpList_isW rfl _ _ (exec_eqPts _ _ _ x.o pZ rfl rfl rfl) ?_) | (refine wpList_isW rfl _ _ (exec_eqPts _ _ _ x.t pZ rfl rfl rfl) ?_) | fail)
                          go_ret
                          exact retD HR'.out.symm (KB.out.trans K4.out)
                        | true =>
                          have HR' := hid (show r = (x.b == 0) from by rw [HR.out, show zB x.t = eqP x.t pZ from rfl, show zB x.o = eqP x.o pZ from rfl, a1, a2]; rfl)
                          go_enter Try.func22, Try.ntmps22
                          go_wp2_with (first | go_big_skip | (refine wpList_is rfl _ _ (exec_box 49 _ x.cells.toArray rfl rfl) ?_) | (refine wpList_is rfl _ _ (exec_alloc 47 pZ.cells.toArray iPtr2 rfl) ?_) | (refine wpList_is rfl _ _ (exec_buildPtZ rfl) ?_) | (refine wpList_noval rfl _ (exec_storeNew 47 _ _ rfl (w.alloc (.cells x.cells.toArray 49)) pZ.cells.toArray pZ.cells.toArray rfl rfl rfl iPtr2 rfl (cells_one pZ)) ?_) | (refine wpList_isW rfl _ _ (exec_load _ _ _ _ rfl rfl (loadPt_run _ w.heap.size (0 + 4) x.t D2.out.t)) ?_) | fail)
                          refine (rMayPtr_any _ x.t).mono ?_
                          rintro e w3 ⟨rfl, k3⟩
                          rw [M1.out]
                          have K3 := hid k3
                          clear k3
                          go_wp2_with (first | (refine wpList_isW rfl _ _ (exec_load _ _ _ _ rfl rfl (loadPt_run _ w.heap.size (0 + 9) x.o (range_keep D2.out.o K3.out (by simp)))) ?_) | fail)
                          refine (rMayPtr_any _ x.o).mono ?_
                          rintro e w4 ⟨rfl, k4⟩
                          rw [M2.out]
                          have K4 := hid (K3.out.trans k4)
                          have d4 := D2.out.keep K4.out (by simp)
                          have c0 := d4.c0
                          have c2 := d4.c2
                          have c3 := d4.c3
                          simp only [Nat.zero_add] at c2 c3
                          clear k4 d4
                          go_wp2_with (first | go_big_skip | (refine wpList_isW rfl _ _ (exec_load _ _ _ _ rfl rfl (loadPt_run _ w.heap.size (0 + 9) x.o (range_keep D2.out.o K4.out (by simp)))) ?_) | (refine wpList_isW rfl _ _ (exec_load _ _ _ _ rfl rfl (loadPt_run _ w.heap.size (0 + 4) x.t (range_keep D2.out.t K4.out (by simp)))) ?_) | (refine wpList_isW rfl _ _ (exec_load _ _ _ _ rfl rfl (loadPt_run _ (w.heap.size + 1) 0 pZ (range_keep RZ.out K4.out (by simp)))) ?_) | (refine wpList_isW rfl _ _ (exec_eqPts _ _ _ x.o pZ rfl rfl rfl) ?_) | (refine wpList_isW rfl _ _ (exec_eqPts _ _ _ x.t pZ rfl rfl rfl) ?_) | fail)
                          go_ret
                          exact retD HR'.out.symm (KB.out.trans K4.out)
                    · have e2 : (x.d == 2) = false := by simpa using h8
                      rw [if_neg h8] at HR
                      clear h8
                      by_cases h9 : x.d = 3
                      · have e3 : (x.d == 3) = true := by simpa using h9
                        rw [if_pos h9] at HR
                        clear h9
                        go_enter Try.func22, Try.ntmps22
                        go_wp2_with (first | go_big_skip | (refine wpList_is rfl _ _ (exec_box 49 _ x.cells.toArray rfl rfl) ?_) | (refine wpList_is rfl _ _ (exec_alloc 47 pZ.cells.toArray iPtr2 rfl) ?_) | (refine wpList_is rfl _ _ (exec_buildPtZ rfl) ?_) | (refine wpList_noval rfl _ (exec_storeNew 47 _ _ rfl (w.alloc (.cells x.cells.toArray 49)) pZ.cells.toArray pZ.cells.toArray rfl rfl rfl iPtr2 rfl (cells_one pZ)) ?_) | (refine wpList_isW rfl _ _ (exec_load _ _ _ _ rfl rfl (loadPt_run _ w.heap.size (0 + 4) x.t D2.out.t)) ?_) | fail)
                        refine (rMayPtr_any _ x.t).mono ?_
                        rintro e w3 ⟨rfl, k3⟩
                        rw [M1.out]
                        have K3 := hid k3
                        clear k3
                        go_wp2_with (first | (refine wpList_isW rfl _ _ (exec_load _ _ _ _ rfl rfl (loadPt_run _ w.heap.size (0 + 9) x.o (range_keep D2.out.o K3.out (by simp)))) ?_) | fail)
                        refine (rMayPtr_any _ x.o).mono ?_
                        rintro e w4 ⟨rfl, k4⟩
                        rw [M2.out]
                        have K4 := hid (K3.out.trans k4)
                        have d4 := D2.out.keep K4.out (by simp)
                        have c0 := d4.c0
                        have c2 := d4.c2
                        have c3 := d4.c3
                        simp only [Nat.zero_add] at c2 c3
                        clear k4 d4
                        go_wp2_with (first | go_big_skip | (refine wpList_isW rfl _ _ (exec_load _ _ _ _ rfl rfl (loadPt_run _ w.heap.size (0 + 9) x.o (range_keep D2.out.o K4.out (by simp)))) ?_) | (refine wpList_isW rfl _ _ (exec_load _ _ _ _ rfl rfl (loadPt_run _ w.heap.size (0 + 4) x.t (range_keep D2.out.t K4.out (by simp)))) ?_) | (refine wpList_isW rfl _ _ (exec_load _ _ _ _ rfl rfl (loadPt_run _ (w.heap.size + 1) 0 pZ (range_keep RZ.out K4.out (by simp)))) ?_) | (refine wpList_isW rfl _ _ (exec_eqPts _ _ _ x.o pZ rfl rfl rfl) ?_) | (refine wpList_isW rfl _ _ (exec_eqPts _ _ _ x.t pZ rfl rfl rfl) ?_) | fail)
                        go_ret
                        exact retD HR.out.symm (KB.out.trans K4.out)
                      · have e3 : (x.d == 3) = false := by simpa using h9
                        rw [if_neg h9] at HR
                        clear h9
                        go_enter Try.func22, Try.ntmps22
                        go_wp2_with (first | go_big_skip | (refine wpList_is rfl _ _ (exec_box 49 _ x.cells.toArray rfl rfl) ?_) | (refine wpList_is rfl _ _ (exec_alloc 47 pZ.cells.toArray iPtr2 rfl) ?_) | (refine wpList_is rfl _ _ (exec_buildPtZ rfl) ?_) | (refine wpList_noval rfl _ (exec_storeNew 47 _ _ rfl (w.alloc (.cells x.cells.toArray 49)) pZ.cells.toArray pZ.cells.toArray rfl rfl rfl iPtr2 rfl (cells_one pZ)) ?_) | (refine wpList_isW rfl _ _ (exec_load _ _ _ _ rfl rfl (loadPt_run _ w.heap.size (0 + 4) x.t D2.out.t)) ?_) | fail)
                        refine (rMayPtr_any _ x.t).mono ?_
                        rintro e w3 ⟨rfl, k3⟩
                        rw [M1.out]
                        have K3 := hid k3
                        clear k3
                        go_wp2_with (first | (refine wpList_isW rfl _ _ (exec_load _ _ _ _ rfl rfl (loadPt_run _ w.heap.size (0 + 9) x.o (range_keep D2.out.o K3.out (by simp)))) ?_) | fail)
                        refine (rMayPtr_any _ x.o).mono ?_
                        rintro e w4 ⟨rfl, k4⟩
                        rw [M2.out]
                        have K4 := hid (K3.out.trans k4)
                        have d4 := D2.out.keep K4.out (by simp)
                        have c0 := d4.c0
                        have c2 := d4.c2
                        have c3 := d4.c3
                        simp only [Nat.zero_add] at c2 c3
                        clear k4 d4
                        go_wp2_with (first | go_big_skip | (refine wpList_isW rfl _ _ (exec_load _ _ _ _ rfl rfl (loadPt_run _ w.heap.size (0 + 9) x.o (range_keep D2.out.o K4.out (by simp)))) ?_) | (refine wpList_isW rfl _ _ (exec_load _ _ _ _ rfl rfl (loadPt_run _ w.heap.size (0 + 4) x.t (range_keep D2.out.t K4.out (by simp)))) ?_) | (refine wpList_isW rfl _ _ (exec_load _ _ _ _ rfl rfl (loadPt_run _ (w.heap.size + 1) 0 pZ (range_keep RZ.out K4.out (by simp)))) ?_) | (refine wpList_isW rfl _ _ (exec_eqPts _ _ _ x.o pZ rfl rfl rfl) ?_) | (refine wpList_isW rfl _ _ (exec_eqPts _ _ _ x.t pZ rfl rfl rfl) ?_) | fail)
                        go_ret
                        exact retD HR.out.symm (KB.out.trans K4.out)
end Go.Proofs.Ytamcllcjondcpaa


/- delta: the reference's GetDelta. -/
namespace Go.Proofs.Ytamcllcjondcpaa
open Go.RowKit Go.Shelf
set_option maxRecDepth 100000
set_option linter.unusedSimpArgs false

def getD (st : PSt) : Dl × PSt :=
  if (headE st).1.d = 1 then ({ (headE st).1 with t := (getP (headE st).2).1 }, (getP (headE st).2).2)
  else if (headE st).1.d = 3 then ({ (headE st).1 with o := (getP (headE st).2).1, t := (getP (getP (headE st).2).2).1 }, (getP (getP (headE st).2).2).2)
  else headE st
/-- What the reference's eye knows behind a delta. -/
def finD (o : Dl × PSt) : PSt := formW o.2 (!mayL o.1)
def RGetPost (w : World) (B p : Nat) (st : PSt) (e : Ending) (w' : World) : Prop :=
  e = .returned (dlV (getD st).1) ∧ REyL w' B p (finD (getD st)) ∧ Keeps [p] w w'

set_option maxHeartbeats 12800000 in
theorem rdGet1_any (w : World) (B p : Nat) (st : PSt) (h : REyL w B p st) (hB : B ≤ w.heap.size) (hd : (headE st).1.d = 1) :
    Calls Try.prog 69 #[.pointer (some ⟨p, 0, none⟩)] w (RGetPost w B p st) := by
  have HB := hid hB
  have hpw := h.lt
  have HP := hid hpw
  have k1 : Keeps [] w (w.alloc (.cells dZ.cells.toArray 49)) := (Keeps.refl [] w).alloc _
  have k2 : Keeps [] w ((w.alloc (.cells dZ.cells.toArray 49)).alloc (.cells dZ.cells.toArray 49)) := k1.alloc _
  have E0 := hid (h.more k2)
  have D0 : Hid (((w.alloc (.cells dZ.cells.toArray 49)).alloc (.cells dZ.cells.toArray 49)).heap[w.heap.size]? = some (.cells dZ.cells.toArray 49 (0, 0))) := hid (((Keeps.refl [] (w.alloc (.cells dZ.cells.toArray 49))).alloc _).block _ (by simp) (by simp) |>.trans (heap_alloc_new w _))
  have b3 := heap_alloc_new (w.alloc (.cells dZ.cells.toArray 49)) (.cells dZ.cells.toArray 49)
  rw [World.size_alloc] at b3
  have J0 := hid b3
  have K0 := hid (k2.mono (S' := [p]) (by simp))
  obtain ⟨x1, s1, e1⟩ : ∃ x s, numE 1 st = (x, s) := ⟨_, _, rfl⟩
  obtain ⟨x2, s2, e2⟩ : ∃ x s, numE 2 s1 = (x, s) := ⟨_, _, rfl⟩
  obtain ⟨x3, s3, e3⟩ : ∃ x s, numE 1 s2 = (x, s) := ⟨_, _, rfl⟩
  obtain ⟨x4, s4, e4⟩ : ∃ x s, numE 2 s3 = (x, s) := ⟨_, _, rfl⟩
  have eh : headE st = (⟨x1, x2, x3, x4, pZ, pZ⟩, s4) := by unfold headE; rw [e1]; simp only; rw [e2]; simp only; rw [e3]; simp only; rw [e4]
  rw [eh] at hd
  simp only at hd
  obtain ⟨y1, t1, f1⟩ : ∃ x s, getP s4 = (x, s) := ⟨_, _, rfl⟩
  have EQ : Hid (getD st = (⟨x1, x2, x3, x4, y1, pZ⟩, t1)) := hid (by unfold getD; rw [eh]; simp only; rw [if_pos hd, f1])
  subst hd
  have N1 := hid e1
  have N2 := hid e2
  have N3 := hid e3
  have N4 := hid e4
  have M1 := hid f1
  clear h hB hpw k1 k2 b3 eh e1 e2 e3 e4 f1
  go_enter Try.func69, Try.ntmps69
  go_wp2_with (first | (refine wpList_is rfl _ _ (exec_alloc 49 dZ.cells.toArray iDelta rfl) ?_) | (refine wpList_is rfl _ _ (exec_buildDlZ rfl) ?_) | (refine wpList_noval rfl _ (exec_storeNew 49 _ _ rfl (w.alloc (.cells dZ.cells.toArray 49)) dZ.cells.toArray dZ.cells.toArray rfl rfl rfl iDelta rfl (dcells_one dZ)) ?_) | fail)
  have A := E0.out.num 1
  rw [N1.out] at A
  refine A.mono ?_
  rintro e u1 ⟨rfl, ey, kk⟩
  have F1 := hid ((kk.block (w.heap.size + 1) (lt_of_block J0.out) (by have := HP.out; simp; omega)).trans J0.out)
  have G1 := hid ((kk.block w.heap.size (lt_of_block D0.out) (by have := HP.out; simp; omega)).trans D0.out)
  have T1 := hid ey
  have KU1 := hid (K0.out.trans kk)
  obtain ⟨cc, ff⟩ := five_cells F1.out 0
  change u1.cell? ⟨w.heap.size + 1, 0, none⟩ = some (.int .i64 0) at cc
  clear A ey kk
  have jj := set_five (i := 0) F1.out (.int .i64 1)
  have J1 : Hid ((u1.setCell ⟨w.heap.size + 1, 0, none⟩ (.int .i64 1)).heap[w.heap.size + 1]? = some (.cells (⟨1, 0, 0, 0, pZ, pZ⟩ : Dl).cells.toArray 49 (0, 0))) := hid jj
  have sk : Keeps [w.heap.size + 1] u1 (u1.setCell ⟨w.heap.size + 1, 0, none⟩ (.int .i64 1)) := set_keep
  have D1 := hid ((sk.block w.heap.size (lt_of_block G1.out) (by simp)).trans G1.out)
  have E1 := hid (T1.out.later sk (by have := HB.out; omega) (by have := HP.out; omega))
  have K1 := hid (KU1.out.trans' sk (fun i hi hm => by simp at hm; omega))
  clear sk jj
  go_wp2_with fail
  have A := E1.out.num 2
  rw [N2.out] at A
  refine A.mono ?_
  rintro e u2 ⟨rfl, ey, kk⟩
  have F2 := hid ((kk.block (w.heap.size + 1) (lt_of_block J1.out) (by have := HP.out; simp; omega)).trans J1.out)
  have G2 := hid ((kk.block w.heap.size (lt_of_block D1.out) (by have := HP.out; simp; omega)).trans D1.out)
  have T2 := hid ey
  have KU2 := hid (K1.out.trans kk)
  obtain ⟨cc, ff⟩ := five_cells F2.out 1
  change u2.cell? ⟨w.heap.size + 1, 1, none⟩ = some (.int .i64 0) at cc
  clear A ey kk
  have jj := set_five (i := 1) F2.out (.int .i64 x2)
  have J2 : Hid ((u2.setCell ⟨w.heap.size + 1, 1, none⟩ (.int .i64 x2)).heap[w.heap.size + 1]? = some (.cells (⟨1, x2, 0, 0, pZ, pZ⟩ : Dl).cells.toArray 49 (0, 0))) := hid jj
  have sk : Keeps [w.heap.size + 1] u2 (u2.setCell ⟨w.heap.size + 1, 1, none⟩ (.int .i64 x2)) := set_keep
  have D2 := hid ((sk.block w.heap.size (lt_of_block G2.out) (by simp)).trans G2.out)
  have E2 := hid (T2.out.later sk (by have := HB.out; omega) (by have := HP.out; omega))
  have K2 := hid (KU2.out.trans' sk (fun i hi hm => by simp at hm; omega))
  clear sk jj
  go_wp2_with fail
  have A := E2.out.num 1
  rw [N3.out] at A
  refine A.mono ?_
  rintro e u3 ⟨rfl, ey, kk⟩
  have F3 := hid ((kk.block (w.heap.size + 1) (lt_of_block J2.out) (by have := HP.out; simp; omega)).trans J2.out)
  have G3 := hid ((kk.block w.heap.size (lt_of_block D2.out) (by have := HP.out; simp; omega)).trans D2.out)
  have T3 := hid ey
  have KU3 := hid (K2.out.trans kk)
  obtain ⟨cc, ff⟩ := five_cells F3.out 2
  change u3.cell? ⟨w.heap.size + 1, 2, none⟩ = some (.int .i64 0) at cc
  clear A ey kk
  have jj := set_five (i := 2) F3.out (.int .i64 x3)
  have J3 : Hid ((u3.setCell ⟨w.heap.size + 1, 2, none⟩ (.int .i64 x3)).heap[w.heap.size + 1]? = some (.cells (⟨1, x2, x3, 0, pZ, pZ⟩ : Dl).cells.toArray 49 (0, 0))) := hid jj
  have sk : Keeps [w.heap.size + 1] u3 (u3.setCell ⟨w.heap.size + 1, 2, none⟩ (.int .i64 x3)) := set_keep
  have D3 := hid ((sk.block w.heap.size (lt_of_block G3.out) (by simp)).trans G3.out)
  have E3 := hid (T3.out.later sk (by have := HB.out; omega) (by have := HP.out; omega))
  have K3 := hid (KU3.out.trans' sk (fun i hi hm => by simp at hm; omega))
  clear sk jj
  go_wp2_with fail
  have A := E3.out.num 2
  rw [N4.out] at A
  refine A.mono ?_
  rintro e u4 ⟨rfl, ey, kk⟩
  have F4 := hid ((kk.block (w.heap.size + 1) (lt_of_block J3.out) (by have := HP.out; simp; omega)).trans J3.out)
  have G4 := hid ((kk.block w.heap.size (lt_of_block D3.out) (by have := HP.out; simp; omega)).trans D3.out)
  have T4 := hid ey
  have KU4 := hid (K3.out.trans kk)
  obtain ⟨cc, ff⟩ := five_cells F4.out 3
  change u4.cell? ⟨w.heap.size + 1, 3, none⟩ = some (.int .i64 0) at cc
  clear A ey kk
  have jj := set_five (i := 3) F4.out (.int .i64 x4)
  have J4 : Hid ((u4.setCell ⟨w.heap.size + 1, 3, none⟩ (.int .i64 x4)).heap[w.heap.size + 1]? = some (.cells (⟨1, x2, x3, x4, pZ, pZ⟩ : Dl).cells.toArray 49 (0, 0))) := hid jj
  have sk : Keeps [w.heap.size + 1] u4 (u4.setCell ⟨w.heap.size + 1, 3, none⟩ (.int .i64 x4)) := set_keep
  have D4 := hid ((sk.block w.heap.size (lt_of_block G4.out) (by simp)).trans G4.out)
  have E4 := hid (T4.out.later sk (by have := HB.out; omega) (by have := HP.out; omega))
  have K4 := hid (KU4.out.trans' sk (fun i hi hm => by simp at hm; omega))
  clear sk jj
  obtain ⟨cd, fd⟩ := five_cells J4.out 0
  change (u4.setCell ⟨w.heap.size + 1, 3, none⟩ (.int .i64 x4)).cell? ⟨w.heap.size + 1, 0, none⟩ = some (.int .i64 1) at cd
  clear fd
  go_wp2_with fail
  have A := rGetPtr_any _ B p _ E4.out (by have := HB.out; have := K4.out.size; omega)
  rw [M1.out] at A
  refine A.mono ?_
  rintro e u5 ⟨rfl, ey, kk⟩
  have F5 := hid ((kk.block (w.heap.size + 1) (lt_of_block J4.out) (by have := HP.out; simp; omega)).trans J4.out)
  have G5 := hid ((kk.block w.heap.size (lt_of_block D4.out) (by have := HP.out; simp; omega)).trans D4.out)
  have T5 := hid ey
  have KU5 := hid (K4.out.trans kk)
  clear A ey kk cd
  obtain ⟨r1, r2⟩ := setRow_keepsP (cs := ((⟨1, x2, x3, x4, pZ, pZ⟩ : Dl).cells.toArray.toList.take 4 ++ y1.cells ++ (⟨1, x2, x3, x4, pZ, pZ⟩ : Dl).cells.toArray.toList.drop (4 + 5)).toArray) F5.out
  have J5 : Hid ((u5.setRow (w.heap.size + 1) ((⟨1, x2, x3, x4, pZ, pZ⟩ : Dl).cells.toArray.toList.take 4 ++ y1.cells ++ (⟨1, x2, x3, x4, pZ, pZ⟩ : Dl).cells.toArray.toList.drop (4 + 5)).toArray).heap[w.heap.size + 1]? = some (.cells (⟨1, x2, x3, x4, y1, pZ⟩ : Dl).cells.toArray 49 (0, 0))) := hid r1
  have D5 := hid ((r2.block w.heap.size (lt_of_block G5.out) (by simp)).trans G5.out)
  have E5 := hid (T5.out.later r2 (by have := HB.out; omega) (by have := HP.out; omega))
  have K5 := hid (KU5.out.trans' r2 (fun i hi hm => by simp at hm; omega))
  clear r1 r2
  have ARM := hid (fun (ρ : Operand → Value) (o : Oper) (x y : Operand) (hop : o.op = .store 47 x y) (hx : ρ x = .pointer (some ⟨w.heap.size + 1, 4, none⟩)) (hy : ρ y = ptV y1) => exec_storePtIn x y hop 49 (w.heap.size + 1) 4 hx (⟨1, x2, x3, x4, pZ, pZ⟩ : Dl).cells.toArray F5.out (by simp [Dl.cells, Pt.cells]) y1 hy)
  obtain ⟨W5, hW⟩ : ∃ W, W = u5.setRow (w.heap.size + 1) ((⟨1, x2, x3, x4, pZ, pZ⟩ : Dl).cells.toArray.toList.take 4 ++ y1.cells ++ (⟨1, x2, x3, x4, pZ, pZ⟩ : Dl).cells.toArray.toList.drop (4 + 5)).toArray := ⟨_, rfl⟩
  rw [← hW] at J5 D5 E5 K5 ARM
  clear hW
  have CB := REyL.cells E5.out
  have cb := CB.1
  clear CB
  have FE := E5
  have FD := J5
  have FR := D5
  have FK := K5
  obtain ⟨xz, hxz⟩ : ∃ x : Dl, x = ⟨1, x2, x3, x4, y1, pZ⟩ := ⟨_, rfl⟩
  rw [← hxz] at FD EQ
  clear hxz
  by_cases hz : t1.2 = 0
  · have HZ := hid hz
    have hzb : (t1.2 == 0) = true := by simpa using hz
    clear hz
    go_wp2_with (first | (refine wpList_isW rfl _ _ (exec_load _ _ _ _ rfl rfl (loadDl_run _ (w.heap.size + 1) 0 xz (range_dl FD.out))) ?_) | (refine wpList_noval rfl W5 (ARM.out _ _ _ _ rfl rfl rfl) ?_))
    refine (rdMay_any _ xz).mono ?_
    rintro e u8 ⟨rfl, k8⟩
    have FE8 := hid (FE.out.more k8)
    have FD8 := hid ((k8.block _ (lt_of_block FD.out) (by simp)).trans FD.out)
    have FR8 := hid ((k8.block _ (lt_of_block FR.out) (by simp)).trans FR.out)
    have FK8 := hid (FK.out.trans (k8.mono (by simp)))
    clear k8 cb
    go_wp2_with fail
    refine (rForm_any FE8.out (!mayL xz)).mono ?_
    rintro e u9 ⟨rfl, ey, k9⟩
    have FE9 := hid ey
    have FD9 := hid ((k9.block _ (lt_of_block FD8.out) (by have := HP.out; simp; omega)).trans FD8.out)
    have FR9 := hid ((k9.block _ (lt_of_block FR8.out) (by have := HP.out; simp; omega)).trans FR8.out)
    have FK9 := hid (FK8.out.trans k9)
    clear k9 ey
    obtain ⟨r1, r2⟩ := setRow_keepsP (cs := xz.cells.toArray) FR9.out
    have R1 := hid r1
    have R2 := hid r2
    clear r1 r2
    go_wp2_with (first | (refine wpList_isW rfl _ _ (exec_load _ _ _ _ rfl rfl (loadDl_run _ (w.heap.size + 1) 0 xz (range_dl FD9.out))) ?_) | (refine wpList_noval rfl _ (exec_storeDl _ _ rfl w.heap.size rfl dZ 49 FR9.out xz rfl) ?_) | fail)
    refine bodyPost_ret (dl_ret1 rfl rfl (range_dl R1.out)) rfl ?_
    exact ⟨by rw [EQ.out], by rw [EQ.out]; exact FE9.out.later R2.out HB.out (by have := HP.out; omega), FK9.out.trans' R2.out (fun i hi hm => by simp at hm; omega)⟩
  · have HZ := hid hz
    have hzb : (t1.2 == 0) = false := by simpa using hz
    clear hz
    obtain ⟨r1, r2⟩ := setRow_keepsP (cs := xz.cells.toArray) FR.out
    have R1 := hid r1
    have R2 := hid r2
    clear r1 r2
    go_wp2_with (first | (refine wpList_isW rfl _ _ (exec_load _ _ _ _ rfl rfl (loadDl_run _ (w.heap.size + 1) 0 xz (range_dl FD.out))) ?_) | (refine wpList_noval rfl _ (exec_storeDl _ _ rfl w.heap.size rfl dZ 49 FR.out xz rfl) ?_) | (refine wpList_noval rfl W5 (ARM.out _ _ _ _ rfl rfl rfl) ?_))
    refine bodyPost_ret (dl_ret1 rfl rfl (range_dl R1.out)) rfl ?_
    exact ⟨by rw [EQ.out], by rw [EQ.out]; unfold finD formW; rw [if_neg (fun h => HZ.out h.2)]; exact FE.out.later R2.out HB.out (by have := HP.out; omega), FK.out.trans' R2.out (fun i hi hm => by simp at hm; omega)⟩
  
set_option maxHeartbeats 12800000 in
theorem rdGet3_any (w : World) (B p : Nat) (st : PSt) (h : REyL w B p st) (hB : B ≤ w.heap.size) (hd : (headE st).1.d = 3) :
    Calls Try.prog 69 #[.pointer (some ⟨p, 0, none⟩)] w (RGetPost w B p st) := by
  have HB := hid hB
  have hpw := h.lt
  have HP := hid hpw
  have k1 : Keeps [] w (w.alloc (.cells dZ.cells.toArray 49)) := (Keeps.refl [] w).alloc _
  have k2 : Keeps [] w ((w.alloc (.cells dZ.cells.toArray 49)).alloc (.cells dZ.cells.toArray 49)) := k1.alloc _
  have E0 := hid (h.more k2)
  have D0 : Hid (((w.alloc (.cells dZ.cells.toArray 49)).alloc (.cells dZ.cells.toArray 49)).heap[w.heap.size]? = some (.cells dZ.cells.toArray 49 (0, 0))) := hid (((Keeps.refl [] (w.alloc (.cells dZ.cells.toArray 49))).alloc _).block _ (by simp) (by simp) |>.trans (heap_alloc_new w _))
  have b3 := heap_alloc_new (w.alloc (.cells dZ.cells.toArray 49)) (.cells dZ.cells.toArray 49)
  rw [World.size_alloc] at b3
  have J0 := hid b3
  have K0 := hid (k2.mono (S' := [p]) (by simp))
  obtain ⟨x1, s1, e1⟩ : ∃ x s, numE 1 st = (x, s) := ⟨_, _, rfl⟩
  obtain ⟨x2, s2, e2⟩ : ∃ x s, numE 2 s1 = (x, s) := ⟨_, _, rfl⟩
  obtain ⟨x3, s3, e3⟩ : ∃ x s, numE 1 s2 = (x, s) := ⟨_, _, rfl⟩
  obtain ⟨x4, s4, e4⟩ : ∃ x s, numE 2 s3 = (x, s) := ⟨_, _, rfl⟩
  have eh : headE st = (⟨x1, x2, x3, x4, pZ, pZ⟩, s4) := by unfold headE; rw [e1]; simp only; rw [e2]; simp only; rw [e3]; simp only; rw [e4]
  rw [eh] at hd
  simp only at hd
  obtain ⟨y1, t1, f1⟩ : ∃ x s, getP s4 = (x, s) := ⟨_, _, rfl⟩
  obtain ⟨y2, t2, f2⟩ : ∃ x s, getP t1 = (x, s) := ⟨_, _, rfl⟩
  have EQ : Hid (getD st = (⟨x1, x2, x3, x4, y2, y1⟩, t2)) := hid (by unfold getD; rw [eh]; simp only; rw [if_neg (by omega), if_pos hd, f1]; simp only; rw [f2])
  subst hd
  have N1 := hid e1
  have N2 := hid e2
  have N3 := hid e3
  have N4 := hid e4
  have M1 := hid f1
  have M2 := hid f2
  clear h hB hpw k1 k2 b3 eh e1 e2 e3 e4 f1 f2
  go_enter Try.func69, Try.ntmps69
  go_wp2_with (first | (refine wpList_is rfl _ _ (exec_alloc 49 dZ.cells.toArray iDelta rfl) ?_) | (refine wpList_is rfl _ _ (exec_buildDlZ rfl) ?_) | (refine wpList_noval rfl _ (exec_storeNew 49 _ _ rfl (w.alloc (.cells dZ.cells.toArray 49)) dZ.cells.toArray dZ.cells.toArray rfl rfl rfl iDelta rfl (dcells_one dZ)) ?_) | fail)
  have A := E0.out.num 1
  rw [N1.out] at A
  refine A.mono ?_
  rintro e u1 ⟨rfl, ey, kk⟩
  have F1 := hid ((kk.block (w.heap.size + 1) (lt_of_block J0.out) (by have := HP.out; simp; omega)).trans J0.out)
  have G1 := hid ((kk.block w.heap.size (lt_of_block D0.out) (by have := HP.out; simp; omega)).trans D0.out)
  have T1 := hid ey
  have KU1 := hid (K0.out.trans kk)
  obtain ⟨cc, ff⟩ := five_cells F1.out 0
  change u1.cell? ⟨w.heap.size + 1, 0, none⟩ = some (.int .i64 0) at cc
  clear A ey kk
  have jj := set_five (i := 0) F1.out (.int .i64 3)
  have J1 : Hid ((u1.setCell ⟨w.heap.size + 1, 0, none⟩ (.int .i64 3)).heap[w.heap.size + 1]? = some (.cells (⟨3, 0, 0, 0, pZ, pZ⟩ : Dl).cells.toArray 49 (0, 0))) := hid jj
  have sk : Keeps [w.heap.size + 1] u1 (u1.setCell ⟨w.heap.size + 1, 0, none⟩ (.int .i64 3)) := set_keep
  have D1 := hid ((sk.block w.heap.size (lt_of_block G1.out) (by simp)).trans G1.out)
  have E1 := hid (T1.out.later sk (by have := HB.out; omega) (by have := HP.out; omega))
  have K1 := hid (KU1.out.trans' sk (fun i hi hm => by simp at hm; omega))
  clear sk jj
  go_wp2_with fail
  have A := E1.out.num 2
  rw [N2.out] at A
  refine A.mono ?_
  rintro e u2 ⟨rfl, ey, kk⟩
  have F2 := hid ((kk.block (w.heap.size + 1) (lt_of_block J1.out) (by have := HP.out; simp; omega)).trans J1.out)
  have G2 := hid ((kk.block w.heap.size (lt_of_block D1.out) (by have := HP.out; simp; omega)).trans D1.out)
  have T2 := hid ey
  have KU2 := hid (K1.out.trans kk)
  obtain ⟨cc, ff⟩ := five_cells F2.out 1
  change u2.cell? ⟨w.heap.size + 1, 1, none⟩ = some (.int .i64 0) at cc
  clear A ey kk
  have jj := set_five (i := 1) F2.out (.int .i64 x2)
  have J2 : Hid ((u2.setCell ⟨w.heap.size + 1, 1, none⟩ (.int .i64 x2)).heap[w.heap.size + 1]? = some (.cells (⟨3, x2, 0, 0, pZ, pZ⟩ : Dl).cells.toArray 49 (0, 0))) := hid jj
  have sk : Keeps [w.heap.size + 1] u2 (u2.setCell ⟨w.heap.size + 1, 1, none⟩ (.int .i64 x2)) := set_keep
  have D2 := hid ((sk.block w.heap.size (lt_of_block G2.out) (by simp)).trans G2.out)
  have E2 := hid (T2.out.later sk (by have := HB.out; omega) (by have := HP.out; omega))
  have K2 := hid (KU2.out.trans' sk (fun i hi hm => by simp at hm; omega))
  clear sk jj
  go_wp2_with fail
  have A := E2.out.num 1
  rw [N3.out] at A
  refine A.mono ?_
  rintro e u3 ⟨rfl, ey, kk⟩
  have F3 := hid ((kk.block (w.heap.size + 1) (lt_of_block J2.out) (by have := HP.out; simp; omega)).trans J2.out)
  have G3 := hid ((kk.block w.heap.size (lt_of_block D2.out) (by have := HP.out; simp; omega)).trans D2.out)
  have T3 := hid ey
  have KU3 := hid (K2.out.trans kk)
  obtain ⟨cc, ff⟩ := five_cells F3.out 2
  change u3.cell? ⟨w.heap.size + 1, 2, none⟩ = some (.int .i64 0) at cc
  clear A ey kk
  have jj := set_five (i := 2) F3.out (.int .i64 x3)
  have J3 : Hid ((u3.setCell ⟨w.heap.size + 1, 2, none⟩ (.int .i64 x3)).heap[w.heap.size + 1]? = some (.cells (⟨3, x2, x3, 0, pZ, pZ⟩ : Dl).cells.toArray 49 (0, 0))) := hid jj
  have sk : Keeps [w.heap.size + 1] u3 (u3.setCell ⟨w.heap.size + 1, 2, none⟩ (.int .i64 x3)) := set_keep
  have D3 := hid ((sk.block w.heap.size (lt_of_block G3.out) (by simp)).trans G3.out)
  have E3 := hid (T3.out.later sk (by have := HB.out; omega) (by have := HP.out; omega))
  have K3 := hid (KU3.out.trans' sk (fun i hi hm => by simp at hm; omega))
  clear sk jj
  go_wp2_with fail
  have A := E3.out.num 2
  rw [N4.out] at A
  refine A.mono ?_
  rintro e u4 ⟨rfl, ey, kk⟩
  have F4 := hid ((kk.block (w.heap.size + 1) (lt_of_block J3.out) (by have := HP.out; simp; omega)).trans J3.out)
  have G4 := hid ((kk.block w.heap.size (lt_of_block D3.out) (by have := HP.out; simp; omega)).trans D3.out)
  have T4 := hid ey
  have KU4 := hid (K3.out.trans kk)
  obtain ⟨cc, ff⟩ := five_cells F4.out 3
  change u4.cell? ⟨w.heap.size + 1, 3, none⟩ = some (.int .i64 0) at cc
  clear A ey kk
  have jj := set_five (i := 3) F4.out (.int .i64 x4)
  have J4 : Hid ((u4.setCell ⟨w.heap.size + 1, 3, none⟩ (.int .i64 x4)).heap[w.heap.size + 1]? = some (.cells (⟨3, x2, x3, x4, pZ, pZ⟩ : Dl).cells.toArray 49 (0, 0))) := hid jj
  have sk : Keeps [w.heap.size + 1] u4 (u4.setCell ⟨w.heap.size + 1, 3, none⟩ (.int .i64 x4)) := set_keep
  have D4 := hid ((sk.block w.heap.size (lt_of_block G4.out) (by simp)).trans G4.out)
  have E4 := hid (T4.out.later sk (by have := HB.out; omega) (by have := HP.out; omega))
  have K4 := hid (KU4.out.trans' sk (fun i hi hm => by simp at hm; omega))
  clear sk jj
  obtain ⟨cd, fd⟩ := five_cells J4.out 0
  change (u4.setCell ⟨w.heap.size + 1, 3, none⟩ (.int .i64 x4)).cell? ⟨w.heap.size + 1, 0, none⟩ = some (.int .i64 3) at cd
  clear fd
  go_wp2_with fail
  have A := rGetPtr_any _ B p _ E4.out (by have := HB.out; have := K4.out.size; omega)
  rw [M1.out] at A
  refine A.mono ?_
  rintro e u5 ⟨rfl, ey, kk⟩
  have F5 := hid ((kk.block (w.heap.size + 1) (lt_of_block J4.out) (by have := HP.out; simp; omega)).trans J4.out)
  have G5 := hid ((kk.block w.heap.size (lt_of_block D4.out) (by have := HP.out; simp; omega)).trans D4.out)
  have T5 := hid ey
  have KU5 := hid (K4.out.trans kk)
  clear A ey kk cd
  obtain ⟨r1, r2⟩ := setRow_keepsP (cs := ((⟨3, x2, x3, x4, pZ, pZ⟩ : Dl).cells.toArray.toList.take 9 ++ y1.cells ++ (⟨3, x2, x3, x4, pZ, pZ⟩ : Dl).cells.toArray.toList.drop (9 + 5)).toArray) F5.out
  have J5 : Hid ((u5.setRow (w.heap.size + 1) ((⟨3, x2, x3, x4, pZ, pZ⟩ : Dl).cells.toArray.toList.take 9 ++ y1.cells ++ (⟨3, x2, x3, x4, pZ, pZ⟩ : Dl).cells.toArray.toList.drop (9 + 5)).toArray).heap[w.heap.size + 1]? = some (.cells (⟨3, x2, x3, x4, pZ, y1⟩ : Dl).cells.toArray 49 (0, 0))) := hid r1
  have D5 := hid ((r2.block w.heap.size (lt_of_block G5.out) (by simp)).trans G5.out)
  have E5 := hid (T5.out.later r2 (by have := HB.out; omega) (by have := HP.out; omega))
  have K5 := hid (KU5.out.trans' r2 (fun i hi hm => by simp at hm; omega))
  clear r1 r2
  have ARM := hid (fun (ρ : Operand → Value) (o : Oper) (x y : Operand) (hop : o.op = .store 47 x y) (hx : ρ x = .pointer (some ⟨w.heap.size + 1, 9, none⟩)) (hy : ρ y = ptV y1) => exec_storePtIn x y hop 49 (w.heap.size + 1) 9 hx (⟨3, x2, x3, x4, pZ, pZ⟩ : Dl).cells.toArray F5.out (by simp [Dl.cells, Pt.cells]) y1 hy)
  obtain ⟨W5, hW⟩ : ∃ W, W = u5.setRow (w.heap.size + 1) ((⟨3, x2, x3, x4, pZ, pZ⟩ : Dl).cells.toArray.toList.take 9 ++ y1.cells ++ (⟨3, x2, x3, x4, pZ, pZ⟩ : Dl).cells.toArray.toList.drop (9 + 5)).toArray := ⟨_, rfl⟩
  rw [← hW] at J5 D5 E5 K5 ARM
  clear hW
  have CB := REyL.cells E5.out
  have cb := CB.1
  clear CB
  clear cb
  go_wp2_with (first | (refine wpList_noval rfl W5 (ARM.out _ _ _ _ rfl rfl rfl) ?_) | fail)
  have A := rGetPtr_any _ B p _ E5.out (by have := HB.out; have := K5.out.size; omega)
  rw [M2.out] at A
  refine A.mono ?_
  rintro e u6 ⟨rfl, ey, kk⟩
  have F6 := hid ((kk.block (w.heap.size + 1) (lt_of_block J5.out) (by have := HP.out; simp; omega)).trans J5.out)
  have G6 := hid ((kk.block w.heap.size (lt_of_block D5.out) (by have := HP.out; simp; omega)).trans D5.out)
  have T6 := hid ey
  have KU6 := hid (K5.out.trans kk)
  clear A ey kk 
  obtain ⟨r1, r2⟩ := setRow_keepsP (cs := ((⟨3, x2, x3, x4, pZ, y1⟩ : Dl).cells.toArray.toList.take 4 ++ y2.cells ++ (⟨3, x2, x3, x4, pZ, y1⟩ : Dl).cells.toArray.toList.drop (4 + 5)).toArray) F6.out
  have J6 : Hid ((u6.setRow (w.heap.size + 1) ((⟨3, x2, x3, x4, pZ, y1⟩ : Dl).cells.toArray.toList.take 4 ++ y2.cells ++ (⟨3, x2, x3, x4, pZ, y1⟩ : Dl).cells.toArray.toList.drop (4 + 5)).toArray).heap[w.heap.size + 1]? = some (.cells (⟨3, x2, x3, x4, y2, y1⟩ : Dl).cells.toArray 49 (0, 0))) := hid r1
  have D6 := hid ((r2.block w.heap.size (lt_of_block G6.out) (by simp)).trans G6.out)
  have E6 := hid (T6.out.later r2 (by have := HB.out; omega) (by have := HP.out; omega))
  have K6 := hid (KU6.out.trans' r2 (fun i hi hm => by simp at hm; omega))
  clear r1 r2
  have ARM := hid (fun (ρ : Operand → Value) (o : Oper) (x y : Operand) (hop : o.op = .store 47 x y) (hx : ρ x = .pointer (some ⟨w.heap.size + 1, 4, none⟩)) (hy : ρ y = ptV y2) => exec_storePtIn x y hop 49 (w.heap.size + 1) 4 hx (⟨3, x2, x3, x4, pZ, y1⟩ : Dl).cells.toArray F6.out (by simp [Dl.cells, Pt.cells]) y2 hy)
  obtain ⟨W6, hW⟩ : ∃ W, W = u6.setRow (w.heap.size + 1) ((⟨3, x2, x3, x4, pZ, y1⟩ : Dl).cells.toArray.toList.take 4 ++ y2.cells ++ (⟨3, x2, x3, x4, pZ, y1⟩ : Dl).cells.toArray.toList.drop (4 + 5)).toArray := ⟨_, rfl⟩
  rw [← hW] at J6 D6 E6 K6 ARM
  clear hW
  have CB := REyL.cells E6.out
  have cb := CB.1
  clear CB
  have FE := E6
  have FD := J6
  have FR := D6
  have FK := K6
  obtain ⟨xz, hxz⟩ : ∃ x : Dl, x = ⟨3, x2, x3, x4, y2, y1⟩ := ⟨_, rfl⟩
  rw [← hxz] at FD EQ
  clear hxz
  by_cases hz : t2.2 = 0
  · have HZ := hid hz
    have hzb : (t2.2 == 0) = true := by simpa using hz
    clear hz
    go_wp2_with (first | (refine wpList_isW rfl _ _ (exec_load _ _ _ _ rfl rfl (loadDl_run _ (w.heap.size + 1) 0 xz (range_dl FD.out))) ?_) | (refine wpList_noval rfl W6 (ARM.out _ _ _ _ rfl rfl rfl) ?_))
    refine (rdMay_any _ xz).mono ?_
    rintro e u8 ⟨rfl, k8⟩
    have FE8 := hid (FE.out.more k8)
    have FD8 := hid ((k8.block _ (lt_of_block FD.out) (by simp)).trans FD.out)
    have FR8 := hid ((k8.block _ (lt_of_block FR.out) (by simp)).trans FR.out)
    have FK8 := hid (FK.out.trans (k8.mono (by simp)))
    clear k8 cb
    go_wp2_with fail
    refine (rForm_any FE8.out (!mayL xz)).mono ?_
    rintro e u9 ⟨rfl, ey, k9⟩
    have FE9 := hid ey
    have FD9 := hid ((k9.block _ (lt_of_block FD8.out) (by have := HP.out; simp; omega)).trans FD8.out)
    have FR9 := hid ((k9.block _ (lt_of_block FR8.out) (by have := HP.out; simp; omega)).trans FR8.out)
    have FK9 := hid (FK8.out.trans k9)
    clear k9 ey
    obtain ⟨r1, r2⟩ := setRow_keepsP (cs := xz.cells.toArray) FR9.out
    have R1 := hid r1
    have R2 := hid r2
    clear r1 r2
    go_wp2_with (first | (refine wpList_isW rfl _ _ (exec_load _ _ _ _ rfl rfl (loadDl_run _ (w.heap.size + 1) 0 xz (range_dl FD9.out))) ?_) | (refine wpList_noval rfl _ (exec_storeDl _ _ rfl w.heap.size rfl dZ 49 FR9.out xz rfl) ?_) | fail)
    refine bodyPost_ret (dl_ret1 rfl rfl (range_dl R1.out)) rfl ?_
    exact ⟨by rw [EQ.out], by rw [EQ.out]; exact FE9.out.later R2.out HB.out (by have := HP.out; omega), FK9.out.trans' R2.out (fun i hi hm => by simp at hm; omega)⟩
  · have HZ := hid hz
    have hzb : (t2.2 == 0) = false := by simpa using hz
    clear hz
    obtain ⟨r1, r2⟩ := setRow_keepsP (cs := xz.cells.toArray) FR.out
    have R1 := hid r1
    have R2 := hid r2
    clear r1 r2
    go_wp2_with (first | (refine wpList_isW rfl _ _ (exec_load _ _ _ _ rfl rfl (loadDl_run _ (w.heap.size + 1) 0 xz (range_dl FD.out))) ?_) | (refine wpList_noval rfl _ (exec_storeDl _ _ rfl w.heap.size rfl dZ 49 FR.out xz rfl) ?_) | (refine wpList_noval rfl W6 (ARM.out _ _ _ _ rfl rfl rfl) ?_))
    refine bodyPost_ret (dl_ret1 rfl rfl (range_dl R1.out)) rfl ?_
    exact ⟨by rw [EQ.out], by rw [EQ.out]; unfold finD formW; rw [if_neg (fun h => HZ.out h.2)]; exact FE.out.later R2.out HB.out (by have := HP.out; omega), FK.out.trans' R2.out (fun i hi hm => by simp at hm; omega)⟩
  
set_option maxHeartbeats 12800000 in
theorem rdGet0_any (w : World) (B p : Nat) (st : PSt) (h : REyL w B p st) (hB : B ≤ w.heap.size) (h1 : (headE st).1.d ≠ 1) (h3 : (headE st).1.d ≠ 3) :
    Calls Try.prog 69 #[.pointer (some ⟨p, 0, none⟩)] w (RGetPost w B p st) := by
  have HB := hid hB
  have hpw := h.lt
  have HP := hid hpw
  have k1 : Keeps [] w (w.alloc (.cells dZ.cells.toArray 49)) := (Keeps.refl [] w).alloc _
  have k2 : Keeps [] w ((w.alloc (.cells dZ.cells.toArray 49)).alloc (.cells dZ.cells.toArray 49)) := k1.alloc _
  have E0 := hid (h.more k2)
  have D0 : Hid (((w.alloc (.cells dZ.cells.toArray 49)).alloc (.cells dZ.cells.toArray 49)).heap[w.heap.size]? = some (.cells dZ.cells.toArray 49 (0, 0))) := hid (((Keeps.refl [] (w.alloc (.cells dZ.cells.toArray 49))).alloc _).block _ (by simp) (by simp) |>.trans (heap_alloc_new w _))
  have b3 := heap_alloc_new (w.alloc (.cells dZ.cells.toArray 49)) (.cells dZ.cells.toArray 49)
  rw [World.size_alloc] at b3
  have J0 := hid b3
  have K0 := hid (k2.mono (S' := [p]) (by simp))
  obtain ⟨x1, s1, e1⟩ : ∃ x s, numE 1 st = (x, s) := ⟨_, _, rfl⟩
  obtain ⟨x2, s2, e2⟩ : ∃ x s, numE 2 s1 = (x, s) := ⟨_, _, rfl⟩
  obtain ⟨x3, s3, e3⟩ : ∃ x s, numE 1 s2 = (x, s) := ⟨_, _, rfl⟩
  obtain ⟨x4, s4, e4⟩ : ∃ x s, numE 2 s3 = (x, s) := ⟨_, _, rfl⟩
  have eh : headE st = (⟨x1, x2, x3, x4, pZ, pZ⟩, s4) := by unfold headE; rw [e1]; simp only; rw [e2]; simp only; rw [e3]; simp only; rw [e4]
  rw [eh] at h1 h3
  simp only at h1 h3
  have d1 : (x1 == 1) = false := by simpa using h1
  have d3 : (x1 == 3) = false := by simpa using h3
  have EQ : Hid (getD st = (⟨x1, x2, x3, x4, pZ, pZ⟩, s4)) := hid (by unfold getD; rw [eh]; simp only; rw [if_neg h1, if_neg h3])
  clear h1 h3
  have N1 := hid e1
  have N2 := hid e2
  have N3 := hid e3
  have N4 := hid e4
  clear h hB hpw k1 k2 b3 eh e1 e2 e3 e4
  go_enter Try.func69, Try.ntmps69
  go_wp2_with (first | (refine wpList_is rfl _ _ (exec_alloc 49 dZ.cells.toArray iDelta rfl) ?_) | (refine wpList_is rfl _ _ (exec_buildDlZ rfl) ?_) | (refine wpList_noval rfl _ (exec_storeNew 49 _ _ rfl (w.alloc (.cells dZ.cells.toArray 49)) dZ.cells.toArray dZ.cells.toArray rfl rfl rfl iDelta rfl (dcells_one dZ)) ?_) | fail)
  have A := E0.out.num 1
  rw [N1.out] at A
  refine A.mono ?_
  rintro e u1 ⟨rfl, ey, kk⟩
  have F1 := hid ((kk.block (w.heap.size + 1) (lt_of_block J0.out) (by have := HP.out; simp; omega)).trans J0.out)
  have G1 := hid ((kk.block w.heap.size (lt_of_block D0.out) (by have := HP.out; simp; omega)).trans D0.out)
  have T1 := hid ey
  have KU1 := hid (K0.out.trans kk)
  obtain ⟨cc, ff⟩ := five_cells F1.out 0
  change u1.cell? ⟨w.heap.size + 1, 0, none⟩ = some (.int .i64 0) at cc
  clear A ey kk
  have jj := set_five (i := 0) F1.out (.int .i64 x1)
  have J1 : Hid ((u1.setCell ⟨w.heap.size + 1, 0, none⟩ (.int .i64 x1)).heap[w.heap.size + 1]? = some (.cells (⟨x1, 0, 0, 0, pZ, pZ⟩ : Dl).cells.toArray 49 (0, 0))) := hid jj
  have sk : Keeps [w.heap.size + 1] u1 (u1.setCell ⟨w.heap.size + 1, 0, none⟩ (.int .i64 x1)) := set_keep
  have D1 := hid ((sk.block w.heap.size (lt_of_block G1.out) (by simp)).trans G1.out)
  have E1 := hid (T1.out.later sk (by have := HB.out; omega) (by have := HP.out; omega))
  have K1 := hid (KU1.out.trans' sk (fun i hi hm => by simp at hm; omega))
  clear sk jj
  go_wp2_with fail
  have A := E1.out.num 2
  rw [N2.out] at A
  refine A.mono ?_
  rintro e u2 ⟨rfl, ey, kk⟩
  have F2 := hid ((kk.block (w.heap.size + 1) (lt_of_block J1.out) (by have := HP.out; simp; omega)).trans J1.out)
  have G2 := hid ((kk.block w.heap.size (lt_of_block D1.out) (by have := HP.out; simp; omega)).trans D1.out)
  have T2 := hid ey
  have KU2 := hid (K1.out.trans kk)
  obtain ⟨cc, ff⟩ := five_cells F2.out 1
  change u2.cell? ⟨w.heap.size + 1, 1, none⟩ = some (.int .i64 0) at cc
  clear A ey kk
  have jj := set_five (i := 1) F2.out (.int .i64 x2)
  have J2 : Hid ((u2.setCell ⟨w.heap.size + 1, 1, none⟩ (.int .i64 x2)).heap[w.heap.size + 1]? = some (.cells (⟨x1, x2, 0, 0, pZ, pZ⟩ : Dl).cells.toArray 49 (0, 0))) := hid jj
  have sk : Keeps [w.heap.size + 1] u2 (u2.setCell ⟨w.heap.size + 1, 1, none⟩ (.int .i64 x2)) := set_keep
  have D2 := hid ((sk.block w.heap.size (lt_of_block G2.out) (by simp)).trans G2.out)
  have E2 := hid (T2.out.later sk (by have := HB.out; omega) (by have := HP.out; omega))
  have K2 := hid (KU2.out.trans' sk (fun i hi hm => by simp at hm; omega))
  clear sk jj
  go_wp2_with fail
  have A := E2.out.num 1
  rw [N3.out] at A
  refine A.mono ?_
  rintro e u3 ⟨rfl, ey, kk⟩
  have F3 := hid ((kk.block (w.heap.size + 1) (lt_of_block J2.out) (by have := HP.out; simp; omega)).trans J2.out)
  have G3 := hid ((kk.block w.heap.size (lt_of_block D2.out) (by have := HP.out; simp; omega)).trans D2.out)
  have T3 := hid ey
  have KU3 := hid (K2.out.trans kk)
  obtain ⟨cc, ff⟩ := five_cells F3.out 2
  change u3.cell? ⟨w.heap.size + 1, 2, none⟩ = some (.int .i64 0) at cc
  clear A ey kk
  have jj := set_five (i := 2) F3.out (.int .i64 x3)
  have J3 : Hid ((u3.setCell ⟨w.heap.size + 1, 2, none⟩ (.int .i64 x3)).heap[w.heap.size + 1]? = some (.cells (⟨x1, x2, x3, 0, pZ, pZ⟩ : Dl).cells.toArray 49 (0, 0))) := hid jj
  have sk : Keeps [w.heap.size + 1] u3 (u3.setCell ⟨w.heap.size + 1, 2, none⟩ (.int .i64 x3)) := set_keep
  have D3 := hid ((sk.block w.heap.size (lt_of_block G3.out) (by simp)).trans G3.out)
  have E3 := hid (T3.out.later sk (by have := HB.out; omega) (by have := HP.out; omega))
  have K3 := hid (KU3.out.trans' sk (fun i hi hm => by simp at hm; omega))
  clear sk jj
  go_wp2_with fail
  have A := E3.out.num 2
  rw [N4.out] at A
  refine A.mono ?_
  rintro e u4 ⟨rfl, ey, kk⟩
  have F4 := hid ((kk.block (w.heap.size + 1) (lt_of_block J3.out) (by have := HP.out; simp; omega)).trans J3.out)
  have G4 := hid ((kk.block w.heap.size (lt_of_block D3.out) (by have := HP.out; simp; omega)).trans D3.out)
  have T4 := hid ey
  have KU4 := hid (K3.out.trans kk)
  obtain ⟨cc, ff⟩ := five_cells F4.out 3
  change u4.cell? ⟨w.heap.size + 1, 3, none⟩ = some (.int .i64 0) at cc
  clear A ey kk
  have jj := set_five (i := 3) F4.out (.int .i64 x4)
  have J4 : Hid ((u4.setCell ⟨w.heap.size + 1, 3, none⟩ (.int .i64 x4)).heap[w.heap.size + 1]? = some (.cells (⟨x1, x2, x3, x4, pZ, pZ⟩ : Dl).cells.toArray 49 (0, 0))) := hid jj
  have sk : Keeps [w.heap.size + 1] u4 (u4.setCell ⟨w.heap.size + 1, 3, none⟩ (.int .i64 x4)) := set_keep
  have D4 := hid ((sk.block w.heap.size (lt_of_block G4.out) (by simp)).trans G4.out)
  have E4 := hid (T4.out.later sk (by have := HB.out; omega) (by have := HP.out; omega))
  have K4 := hid (KU4.out.trans' sk (fun i hi hm => by simp at hm; omega))
  clear sk jj
  obtain ⟨cd, fd⟩ := five_cells J4.out 0
  change (u4.setCell ⟨w.heap.size + 1, 3, none⟩ (.int .i64 x4)).cell? ⟨w.heap.size + 1, 0, none⟩ = some (.int .i64 x1) at cd
  clear fd
  have CB := REyL.cells E4.out
  have cb := CB.1
  clear CB
  have FE := E4
  have FD := J4
  have FR := D4
  have FK := K4
  obtain ⟨xz, hxz⟩ : ∃ x : Dl, x = ⟨x1, x2, x3, x4, pZ, pZ⟩ := ⟨_, rfl⟩
  rw [← hxz] at FD EQ
  clear hxz
  by_cases hz : s4.2 = 0
  · have HZ := hid hz
    have hzb : (s4.2 == 0) = true := by simpa using hz
    clear hz
    go_wp2_with (first | (refine wpList_isW rfl _ _ (exec_load _ _ _ _ rfl rfl (loadDl_run _ (w.heap.size + 1) 0 xz (range_dl FD.out))) ?_) | fail)
    refine (rdMay_any _ xz).mono ?_
    rintro e u8 ⟨rfl, k8⟩
    have FE8 := hid (FE.out.more k8)
    have FD8 := hid ((k8.block _ (lt_of_block FD.out) (by simp)).trans FD.out)
    have FR8 := hid ((k8.block _ (lt_of_block FR.out) (by simp)).trans FR.out)
    have FK8 := hid (FK.out.trans (k8.mono (by simp)))
    clear k8 cb
    go_wp2_with fail
    refine (rForm_any FE8.out (!mayL xz)).mono ?_
    rintro e u9 ⟨rfl, ey, k9⟩
    have FE9 := hid ey
    have FD9 := hid ((k9.block _ (lt_of_block FD8.out) (by have := HP.out; simp; omega)).trans FD8.out)
    have FR9 := hid ((k9.block _ (lt_of_block FR8.out) (by have := HP.out; simp; omega)).trans FR8.out)
    have FK9 := hid (FK8.out.trans k9)
    clear k9 ey
    obtain ⟨r1, r2⟩ := setRow_keepsP (cs := xz.cells.toArray) FR9.out
    have R1 := hid r1
    have R2 := hid r2
    clear r1 r2
    go_wp2_with (first | (refine wpList_isW rfl _ _ (exec_load _ _ _ _ rfl rfl (loadDl_run _ (w.heap.size + 1) 0 xz (range_dl FD9.out))) ?_) | (refine wpList_noval rfl _ (exec_storeDl _ _ rfl w.heap.size rfl dZ 49 FR9.out xz rfl) ?_) | fail)
    refine bodyPost_ret (dl_ret1 rfl rfl (range_dl R1.out)) rfl ?_
    exact ⟨by rw [EQ.out], by rw [EQ.out]; exact FE9.out.later R2.out HB.out (by have := HP.out; omega), FK9.out.trans' R2.out (fun i hi hm => by simp at hm; omega)⟩
  · have HZ := hid hz
    have hzb : (s4.2 == 0) = false := by simpa using hz
    clear hz
    obtain ⟨r1, r2⟩ := setRow_keepsP (cs := xz.cells.toArray) FR.out
    have R1 := hid r1
    have R2 := hid r2
    clear r1 r2
    go_wp2_with (first | (refine wpList_isW rfl _ _ (exec_load _ _ _ _ rfl rfl (loadDl_run _ (w.heap.size + 1) 0 xz (range_dl FD.out))) ?_) | (refine wpList_noval rfl _ (exec_storeDl _ _ rfl w.heap.size rfl dZ 49 FR.out xz rfl) ?_) | fail)
    refine bodyPost_ret (dl_ret1 rfl rfl (range_dl R1.out)) rfl ?_
    exact ⟨by rw [EQ.out], by rw [EQ.out]; unfold finD formW; rw [if_neg (fun h => HZ.out h.2)]; exact FE.out.later R2.out HB.out (by have := HP.out; omega), FK.out.trans' R2.out (fun i hi hm => by simp at hm; omega)⟩
  
theorem rdGet_any (w : World) (B p : Nat) (st : PSt) (h : REyL w B p st) (hB : B ≤ w.heap.size) :
    Calls Try.prog 69 #[.pointer (some ⟨p, 0, none⟩)] w (RGetPost w B p st) := by
  by_cases h1 : (headE st).1.d = 1
  · exact rdGet1_any w B p st h hB h1
  · by_cases h3 : (headE st).1.d = 3
    · exact rdGet3_any w B p st h hB h3
    · exact rdGet0_any w B p st h hB h1 h3
end Go.Proofs.Ytamcllcjondcpaa


/- delta: a delta is written, by the code and by the reference. -/
namespace Go.Proofs.Ytamcllcjondcpaa
open Go.RowKit Go.Shelf
set_option maxRecDepth 100000
set_option linter.unusedSimpArgs false

def headN (x : Dl) (s : PSt) : PSt := penNum x.s 2 (penNum x.b 1 (penNum x.i 2 (penNum x.d 1 s)))
def rheadN (x : Dl) (s : PSt) : PSt := refNum x.s 2 (refNum x.b 1 (refNum x.i 2 (refNum x.d 1 s)))
def putD (x : Dl) (s : PSt) : PSt := if x.d = 1 then putP x.t (headN x s) else if x.d = 3 then putP x.t (putP x.o (headN x s)) else headN x s
def rputD (x : Dl) (s : PSt) : PSt := if x.d = 1 then rputP x.t (rheadN x s) else if x.d = 3 then rputP x.t (rputP x.o (rheadN x s)) else rheadN x s

set_option maxHeartbeats 6400000 in
theorem dPut_any (w : World) (B p : Nat) (v : Value) (s : PSt) (x : Dl) (P : PenAt w B 91 5 p v s.1 s.2) (hB : B ≤ w.heap.size) :
    Calls Try.prog 60 #[.pointer (some ⟨p, 0, none⟩), dlV x] w (PenPost w B 91 5 p v (putD x s)) := by
  have ka : Keeps [] w (w.alloc (.cells x.cells.toArray 49)) := (Keeps.refl [] w).alloc _
  have KA := hid ka
  have DA := hid (dl_range (range_new w x.cells 49))
  have PA := hid (P.keep ka (by simp) (by simp))
  have LT := hid (show w.heap.size ∉ p :: v.ownBlock.toList from fun h => Nat.lt_irrefl _ (pen_lt P _ h))
  have HB1 := hid (show B ≤ (w.alloc (.cells x.cells.toArray 49)).heap.size from Nat.le_trans hB ka.size)
  obtain ⟨s1, e1⟩ : ∃ t, t = penNum x.d 1 s := ⟨_, rfl⟩
  obtain ⟨s2, e2⟩ : ∃ t, t = penNum x.i 2 s1 := ⟨_, rfl⟩
  obtain ⟨s3, e3⟩ : ∃ t, t = penNum x.b 1 s2 := ⟨_, rfl⟩
  obtain ⟨s4, e4⟩ : ∃ t, t = penNum x.s 2 s3 := ⟨_, rfl⟩
  have EH : Hid (headN x s = s4) := hid (by unfold headN; rw [e4, e3, e2, e1])
  have E1 := hid e1.symm
  have E2 := hid e2.symm
  have E3 := hid e3.symm
  have E4 := hid e4.symm
  have HS := hid (show w.heap.size < (w.alloc (.cells x.cells.toArray 49)).heap.size by simp)
  have c0 := DA.out.c0
  clear e1 e2 e3 e4 ka P hB
  by_cases h1 : x.d = 1
  · have d1 : (x.d == 1) = true := by simpa using h1
    have E : Hid (putD x s = putP x.t s4) := hid (by unfold putD; rw [if_pos h1, EH.out])
    clear h1
    go_enter Try.func60, Try.ntmps60
    go_wp2_with (first | (refine wpList_is rfl _ _ (exec_box 49 _ x.cells.toArray rfl rfl) ?_) | fail)
    clear c0
    generalize w.alloc (.cells x.cells.toArray 49) = w1 at KA DA PA HB1 HS ⊢
    have HN : Calls Try.prog 59 #[.pointer (some ⟨p, 0, none⟩), .int .i64 x.d, .int .i64 1] w1 (PenPost w1 B 91 5 p v s1) := by
      have := num_any w1 B p v s.1 s.2 x.d 1 PA.out HB1.out
      rw [show penNum x.d 1 (s.1, s.2) = s1 from E1.out] at this
      exact this
    refine HN.mono ?_
    intro e wq1 hq
    obtain ⟨rfl, v1, p1, k1, n1⟩ := pen_step (Keeps.refl _ _) (Or.inl rfl) hq
    have P1 := hid p1
    have K1 := hid k1
    have N1 := hid n1
    have D1 := hid (DA.out.keep k1 LT.out)
    clear hq p1 k1 n1 HN
    have cc := D1.out.c1
    simp only [Nat.zero_add] at cc
    go_wp2_with fail
    clear cc
    have HN : Calls Try.prog 59 #[.pointer (some ⟨p, 0, none⟩), .int .i64 x.i, .int .i64 2] wq1 (PenPost wq1 B 91 5 p v1 s2) := by
      have := num_any wq1 B p v1 s1.1 s1.2 x.i 2 P1.out (Nat.le_trans HB1.out K1.out.size)
      rw [show penNum x.i 2 (s1.1, s1.2) = s2 from E2.out] at this
      exact this
    refine HN.mono ?_
    intro e wq2 hq
    obtain ⟨rfl, v2, p2, k2, n2⟩ := pen_step K1.out N1.out hq
    have P2 := hid p2
    have K2 := hid k2
    have N2 := hid n2
    have D2 := hid (DA.out.keep k2 LT.out)
    clear hq p2 k2 n2 HN
    have cc := D2.out.c2
    simp only [Nat.zero_add] at cc
    go_wp2_with fail
    clear cc
    have HN : Calls Try.prog 59 #[.pointer (some ⟨p, 0, none⟩), .int .i64 x.b, .int .i64 1] wq2 (PenPost wq2 B 91 5 p v2 s3) := by
      have := num_any wq2 B p v2 s2.1 s2.2 x.b 1 P2.out (Nat.le_trans HB1.out K2.out.size)
      rw [show penNum x.b 1 (s2.1, s2.2) = s3 from E3.out] at this
      exact this
    refine HN.mono ?_
    intro e wq3 hq
    obtain ⟨rfl, v3, p3, k3, n3⟩ := pen_step K2.out N2.out hq
    have P3 := hid p3
    have K3 := hid k3
    have N3 := hid n3
    have D3 := hid (DA.out.keep k3 LT.out)
    clear hq p3 k3 n3 HN
    have cc := D3.out.c3
    simp only [Nat.zero_add] at cc
    go_wp2_with fail
    clear cc
    have HN : Calls Try.prog 59 #[.pointer (some ⟨p, 0, none⟩), .int .i64 x.s, .int .i64 2] wq3 (PenPost wq3 B 91 5 p v3 s4) := by
      have := num_any wq3 B p v3 s3.1 s3.2 x.s 2 P3.out (Nat.le_trans HB1.out K3.out.size)
      rw [show penNum x.s 2 (s3.1, s3.2) = s4 from E4.out] at this
      exact this
    refine HN.mono ?_
    intro e wq4 hq
    obtain ⟨rfl, v4, p4, k4, n4⟩ := pen_step K3.out N3.out hq
    have P4 := hid p4
    have K4 := hid k4
    have N4 := hid n4
    have D4 := hid (DA.out.keep k4 LT.out)
    clear hq p4 k4 n4 HN
    have cc := D4.out.c0
    go_wp2_with (first | (refine wpList_isW rfl _ _ (exec_load _ _ _ _ rfl rfl (loadPt_run _ w.heap.size (0 + 4) x.t D4.out.t)) ?_) | fail)
    refine (zPutPtr_any _ B p v4 s4 x.t P4.out (Nat.le_trans HB1.out K4.out.size)).mono ?_
    intro e wq5 hq
    obtain ⟨rfl, v5, p5, k5, n5⟩ := pen_step K4.out N4.out hq
    have P5 := hid p5
    have K5 := hid k5
    have N5 := hid n5
    have D5 := hid (DA.out.keep k5 LT.out)
    clear hq p5 k5 n5
    go_wp2_with fail
    go_end0
    rw [E.out]
    exact PenPost.since KA.out P5.out K5.out N5.out
  · have d1 : (x.d == 1) = false := by simpa using h1
    by_cases h3 : x.d = 3
    · have d3 : (x.d == 3) = true := by simpa using h3
      have E : Hid (putD x s = putP x.t (putP x.o s4)) := hid (by unfold putD; rw [if_neg h1, if_pos h3, EH.out])
      clear h1 h3
      go_enter Try.func60, Try.ntmps60
      go_wp2_with (first | (refine wpList_is rfl _ _ (exec_box 49 _ x.cells.toArray rfl rfl) ?_) | fail)
      clear c0
      generalize w.alloc (.cells x.cells.toArray 49) = w1 at KA DA PA HB1 HS ⊢
      have HN : Calls Try.prog 59 #[.pointer (some ⟨p, 0, none⟩), .int .i64 x.d, .int .i64 1] w1 (PenPost w1 B 91 5 p v s1) := by
        have := num_any w1 B p v s.1 s.2 x.d 1 PA.out HB1.out
        rw [show penNum x.d 1 (s.1, s.2) = s1 from E1.out] at this
        exact this
      refine HN.mono ?_
      intro e wq1 hq
      obtain ⟨rfl, v1, p1, k1, n1⟩ := pen_step (Keeps.refl _ _) (Or.inl rfl) hq
      have P1 := hid p1
      have K1 := hid k1
      have N1 := hid n1
      have D1 := hid (DA.out.keep k1 LT.out)
      clear hq p1 k1 n1 HN
      have cc := D1.out.c1
      simp only [Nat.zero_add] at cc
      go_wp2_with fail
      clear cc
      have HN : Calls Try.prog 59 #[.pointer (some ⟨p, 0, none⟩), .int .i64 x.i, .int .i64 2] wq1 (PenPost wq1 B 91 5 p v1 s2) := by
        have := num_any wq1 B p v1 s1.1 s1.2 x.i 2 P1.out (Nat.le_trans HB1.out K1.out.size)
        rw [show penNum x.i 2 (s1.1, s1.2) = s2 from E2.out] at this
        exact this
      refine HN.mono ?_
      intro e wq2 hq
      obtain ⟨rfl, v2, p2, k2, n2⟩ := pen_step K1.out N1.out hq
      have P2 := hid p2
      have K2 := hid k2
      have N2 := hid n2
      have D2 := hid (DA.out.keep k2 LT.out)
      clear hq p2 k2 n2 HN
      have cc := D2.out.c2
      simp only [Nat.zero_add] at cc
      go_wp2_with fail
      clear cc
      have HN : Calls Try.prog 59 #[.pointer (some ⟨p, 0, none⟩), .int .i64 x.b, .int .i64 1] wq2 (PenPost wq2 B 91 5 p v2 s3) := by
        have := num_any wq2 B p v2 s2.1 s2.2 x.b 1 P2.out (Nat.le_trans HB1.out K2.out.size)
        rw [show penNum x.b 1 (s2.1, s2.2) = s3 from E3.out] at this
        exact this
      refine HN.mono ?_
      intro e wq3 hq
      obtain ⟨rfl, v3, p3, k3, n3⟩ := pen_step K2.out N2.out hq
      have P3 := hid p3
      have K3 := hid k3
      have N3 := hid n3
      have D3 := hid (DA.out.keep k3 LT.out)
      clear hq p3 k3 n3 HN
      have cc := D3.out.c3
      simp only [Nat.zero_add] at cc
      go_wp2_with fail
      clear cc
      have HN : Calls Try.prog 59 #[.pointer (some ⟨p, 0, none⟩), .int .i64 x.s, .int .i64 2] wq3 (PenPost wq3 B 91 5 p v3 s4) := by
        have := num_any wq3 B p v3 s3.1 s3.2 x.s 2 P3.out (Nat.le_trans HB1.out K3.out.size)
        rw [show penNum x.s 2 (s3.1, s3.2) = s4 from E4.out] at this
        exact this
      refine HN.mono ?_
      intro e wq4 hq
      obtain ⟨rfl, v4, p4, k4, n4⟩ := pen_step K3.out N3.out hq
      have P4 := hid p4
      have K4 := hid k4
      have N4 := hid n4
      have D4 := hid (DA.out.keep k4 LT.out)
      clear hq p4 k4 n4 HN
      have cc := D4.out.c0
      go_wp2_with (first | (refine wpList_isW rfl _ _ (exec_load _ _ _ _ rfl rfl (loadPt_run _ w.heap.size (0 + 9) x.o D4.out.o)) ?_) | fail)
      refine (zPutPtr_any _ B p v4 s4 x.o P4.out (Nat.le_trans HB1.out K4.out.size)).mono ?_
      intro e wq5 hq
      obtain ⟨rfl, v5, p5, k5, n5⟩ := pen_step K4.out N4.out hq
      have P5 := hid p5
      have K5 := hid k5
      have N5 := hid n5
      have D5 := hid (DA.out.keep k5 LT.out)
      clear hq p5 k5 n5
      go_wp2_with (first | (refine wpList_isW rfl _ _ (exec_load _ _ _ _ rfl rfl (loadPt_run _ w.heap.size (0 + 4) x.t D5.out.t)) ?_) | fail)
      refine (zPutPtr_any _ B p v5 (putP x.o s4) x.t P5.out (Nat.le_trans HB1.out K5.out.size)).mono ?_
      intro e wq6 hq
      obtain ⟨rfl, v6, p6, k6, n6⟩ := pen_step K5.out N5.out hq
      have P6 := hid p6
      have K6 := hid k6
      have N6 := hid n6
      have D6 := hid (DA.out.keep k6 LT.out)
      clear hq p6 k6 n6
      go_wp2_with fail
      go_end0
      rw [E.out]
      exact PenPost.since KA.out P6.out K6.out N6.out
    · have d3 : (x.d == 3) = false := by simpa using h3
      have E : Hid (putD x s = s4) := hid (by unfold putD; rw [if_neg h1, if_neg h3, EH.out])
      clear h1 h3
      go_enter Try.func60, Try.ntmps60
      go_wp2_with (first | (refine wpList_is rfl _ _ (exec_box 49 _ x.cells.toArray rfl rfl) ?_) | fail)
      clear c0
      generalize w.alloc (.cells x.cells.toArray 49) = w1 at KA DA PA HB1 HS ⊢
      have HN : Calls Try.prog 59 #[.pointer (some ⟨p, 0, none⟩), .int .i64 x.d, .int .i64 1] w1 (PenPost w1 B 91 5 p v s1) := by
        have := num_any w1 B p v s.1 s.2 x.d 1 PA.out HB1.out
        rw [show penNum x.d 1 (s.1, s.2) = s1 from E1.out] at this
        exact this
      refine HN.mono ?_
      intro e wq1 hq
      obtain ⟨rfl, v1, p1, k1, n1⟩ := pen_step (Keeps.refl _ _) (Or.inl rfl) hq
      have P1 := hid p1
      have K1 := hid k1
      have N1 := hid n1
      have D1 := hid (DA.out.keep k1 LT.out)
      clear hq p1 k1 n1 HN
      have cc := D1.out.c1
      simp only [Nat.zero_add] at cc
      go_wp2_with fail
      clear cc
      have HN : Calls Try.prog 59 #[.pointer (some ⟨p, 0, none⟩), .int .i64 x.i, .int .i64 2] wq1 (PenPost wq1 B 91 5 p v1 s2) := by
        have := num_any wq1 B p v1 s1.1 s1.2 x.i 2 P1.out (Nat.le_trans HB1.out K1.out.size)
        rw [show penNum x.i 2 (s1.1, s1.2) = s2 from E2.out] at this
        exact this
      refine HN.mono ?_
      intro e wq2 hq
      obtain ⟨rfl, v2, p2, k2, n2⟩ := pen_step K1.out N1.out hq
      have P2 := hid p2
      have K2 := hid k2
      have N2 := hid n2
      have D2 := hid (DA.out.keep k2 LT.out)
      clear hq p2 k2 n2 HN
      have cc := D2.out.c2
      simp only [Nat.zero_add] at cc
      go_wp2_with fail
      clear cc
      have HN : Calls Try.prog 59 #[.pointer (some ⟨p, 0, none⟩), .int .i64 x.b, .int .i64 1] wq2 (PenPost wq2 B 91 5 p v2 s3) := by
        have := num_any wq2 B p v2 s2.1 s2.2 x.b 1 P2.out (Nat.le_trans HB1.out K2.out.size)
        rw [show penNum x.b 1 (s2.1, s2.2) = s3 from E3.out] at this
        exact this
      refine HN.mono ?_
      intro e wq3 hq
      obtain ⟨rfl, v3, p3, k3, n3⟩ := pen_step K2.out N2.out hq
      have P3 := hid p3
      have K3 := hid k3
      have N3 := hid n3
      have D3 := hid (DA.out.keep k3 LT.out)
      clear hq p3 k3 n3 HN
      have cc := D3.out.c3
      simp only [Nat.zero_add] at cc
      go_wp2_with fail
      clear cc
      have HN : Calls Try.prog 59 #[.pointer (some ⟨p, 0, none⟩), .int .i64 x.s, .int .i64 2] wq3 (PenPost wq3 B 91 5 p v3 s4) := by
        have := num_any wq3 B p v3 s3.1 s3.2 x.s 2 P3.out (Nat.le_trans HB1.out K3.out.size)
        rw [show penNum x.s 2 (s3.1, s3.2) = s4 from E4.out] at this
        exact this
      refine HN.mono ?_
      intro e wq4 hq
      obtain ⟨rfl, v4, p4, k4, n4⟩ := pen_step K3.out N3.out hq
      have P4 := hid p4
      have K4 := hid k4
      have N4 := hid n4
      have D4 := hid (DA.out.keep k4 LT.out)
      clear hq p4 k4 n4 HN
      have cc := D4.out.c0
      go_wp2_with fail
      go_end0
      rw [E.out]
      exact PenPost.since KA.out P4.out K4.out N4.out
set_option maxHeartbeats 6400000 in
theorem rdPut_any (w : World) (B p : Nat) (v : Value) (s : PSt) (x : Dl) (P : PenAt w B 84 5 p v s.1 s.2) (hB : B ≤ w.heap.size) :
    Calls Try.prog 66 #[.pointer (some ⟨p, 0, none⟩), dlV x] w (PenPost w B 84 5 p v (rputD x s)) := by
  have ka : Keeps [] w (w.alloc (.cells x.cells.toArray 49)) := (Keeps.refl [] w).alloc _
  have KA := hid ka
  have DA := hid (dl_range (range_new w x.cells 49))
  have PA := hid (P.keep ka (by simp) (by simp))
  have LT := hid (show w.heap.size ∉ p :: v.ownBlock.toList from fun h => Nat.lt_irrefl _ (pen_lt P _ h))
  have HB1 := hid (show B ≤ (w.alloc (.cells x.cells.toArray 49)).heap.size from Nat.le_trans hB ka.size)
  obtain ⟨s1, e1⟩ : ∃ t, t = refNum x.d 1 s := ⟨_, rfl⟩
  obtain ⟨s2, e2⟩ : ∃ t, t = refNum x.i 2 s1 := ⟨_, rfl⟩
  obtain ⟨s3, e3⟩ : ∃ t, t = refNum x.b 1 s2 := ⟨_, rfl⟩
  obtain ⟨s4, e4⟩ : ∃ t, t = refNum x.s 2 s3 := ⟨_, rfl⟩
  have EH : Hid (rheadN x s = s4) := hid (by unfold rheadN; rw [e4, e3, e2, e1])
  have E1 := hid e1.symm
  have E2 := hid e2.symm
  have E3 := hid e3.symm
  have E4 := hid e4.symm
  have HS := hid (show w.heap.size < (w.alloc (.cells x.cells.toArray 49)).heap.size by simp)
  have c0 := DA.out.c0
  clear e1 e2 e3 e4 ka P hB
  by_cases h1 : x.d = 1
  · have d1 : (x.d == 1) = true := by simpa using h1
    have E : Hid (rputD x s = rputP x.t s4) := hid (by unfold rputD; rw [if_pos h1, EH.out])
    clear h1
    go_enter Try.func66, Try.ntmps66
    go_wp2_with (first | (refine wpList_is rfl _ _ (exec_box 49 _ x.cells.toArray rfl rfl) ?_) | fail)
    clear c0
    generalize w.alloc (.cells x.cells.toArray 49) = w1 at KA DA PA HB1 HS ⊢
    have HN : Calls Try.prog 65 #[.pointer (some ⟨p, 0, none⟩), .int .i64 x.d, .int .i64 1] w1 (PenPost w1 B 84 5 p v s1) := by
      have := rnum_any w1 B p v s.1 s.2 x.d 1 PA.out HB1.out
      rw [show refNum x.d 1 (s.1, s.2) = s1 from E1.out] at this
      exact this
    refine HN.mono ?_
    intro e wq1 hq
    obtain ⟨rfl, v1, p1, k1, n1⟩ := pen_step (Keeps.refl _ _) (Or.inl rfl) hq
    have P1 := hid p1
    have K1 := hid k1
    have N1 := hid n1
    have D1 := hid (DA.out.keep k1 LT.out)
    clear hq p1 k1 n1 HN
    have cc := D1.out.c1
    simp only [Nat.zero_add] at cc
    go_wp2_with fail
    clear cc
    have HN : Calls Try.prog 65 #[.pointer (some ⟨p, 0, none⟩), .int .i64 x.i, .int .i64 2] wq1 (PenPost wq1 B 84 5 p v1 s2) := by
      have := rnum_any wq1 B p v1 s1.1 s1.2 x.i 2 P1.out (Nat.le_trans HB1.out K1.out.size)
      rw [show refNum x.i 2 (s1.1, s1.2) = s2 from E2.out] at this
      exact this
    refine HN.mono ?_
    intro e wq2 hq
    obtain ⟨rfl, v2, p2, k2, n2⟩ := pen_step K1.out N1.out hq
    have P2 := hid p2
    have K2 := hid k2
    have N2 := hid n2
    have D2 := hid (DA.out.keep k2 LT.out)
    clear hq p2 k2 n2 HN
    have cc := D2.out.c2
    simp only [Nat.zero_add] at cc
    go_wp2_with fail
    clear cc
    have HN : Calls Try.prog 65 #[.pointer (some ⟨p, 0, none⟩), .int .i64 x.b, .int .i64 1] wq2 (PenPost wq2 B 84 5 p v2 s3) := by
      have := rnum_any wq2 B p v2 s2.1 s2.2 x.b 1 P2.out (Nat.le_trans HB1.out K2.out.size)
      rw [show refNum x.b 1 (s2.1, s2.2) = s3 from E3.out] at this
      exact this
    refine HN.mono ?_
    intro e wq3 hq
    obtain ⟨rfl, v3, p3, k3, n3⟩ := pen_step K2.out N2.out hq
    have P3 := hid p3
    have K3 := hid k3
    have N3 := hid n3
    have D3 := hid (DA.out.keep k3 LT.out)
    clear hq p3 k3 n3 HN
    have cc := D3.out.c3
    simp only [Nat.zero_add] at cc
    go_wp2_with fail
    clear cc
    have HN : Calls Try.prog 65 #[.pointer (some ⟨p, 0, none⟩), .int .i64 x.s, .int .i64 2] wq3 (PenPost wq3 B 84 5 p v3 s4) := by
      have := rnum_any wq3 B p v3 s3.1 s3.2 x.s 2 P3.out (Nat.le_trans HB1.out K3.out.size)
      rw [show refNum x.s 2 (s3.1, s3.2) = s4 from E4.out] at this
      exact this
    refine HN.mono ?_
    intro e wq4 hq
    obtain ⟨rfl, v4, p4, k4, n4⟩ := pen_step K3.out N3.out hq
    have P4 := hid p4
    have K4 := hid k4
    have N4 := hid n4
    have D4 := hid (DA.out.keep k4 LT.out)
    clear hq p4 k4 n4 HN
    have cc := D4.out.c0
    go_wp2_with (first | (refine wpList_isW rfl _ _ (exec_load _ _ _ _ rfl rfl (loadPt_run _ w.heap.size (0 + 4) x.t D4.out.t)) ?_) | fail)
    refine (rPutPtr_any _ B p v4 s4 x.t P4.out (Nat.le_trans HB1.out K4.out.size)).mono ?_
    intro e wq5 hq
    obtain ⟨rfl, v5, p5, k5, n5⟩ := pen_step K4.out N4.out hq
    have P5 := hid p5
    have K5 := hid k5
    have N5 := hid n5
    have D5 := hid (DA.out.keep k5 LT.out)
    clear hq p5 k5 n5
    go_wp2_with fail
    go_end0
    rw [E.out]
    exact PenPost.since KA.out P5.out K5.out N5.out
  · have d1 : (x.d == 1) = false := by simpa using h1
    by_cases h3 : x.d = 3
    · have d3 : (x.d == 3) = true := by simpa using h3
      have E : Hid (rputD x s = rputP x.t (rputP x.o s4)) := hid (by unfold rputD; rw [if_neg h1, if_pos h3, EH.out])
      clear h1 h3
      go_enter Try.func66, Try.ntmps66
      go_wp2_with (first | (refine wpList_is rfl _ _ (exec_box 49 _ x.cells.toArray rfl rfl) ?_) | fail)
      clear c0
      generalize w.alloc (.cells x.cells.toArray 49) = w1 at KA DA PA HB1 HS ⊢
      have HN : Calls Try.prog 65 #[.pointer (some ⟨p, 0, none⟩), .int .i64 x.d, .int .i64 1] w1 (PenPost w1 B 84 5 p v s1) := by
        have := rnum_any w1 B p v s.1 s.2 x.d 1 PA.out HB1.out
        rw [show refNum x.d 1 (s.1, s.2) = s1 from E1.out] at this
        exact this
      refine HN.mono ?_
      intro e wq1 hq
      obtain ⟨rfl, v1, p1, k1, n1⟩ := pen_step (Keeps.refl _ _) (Or.inl rfl) hq
      have P1 := hid p1
      have K1 := hid k1
      have N1 := hid n1
      have D1 := hid (DA.out.keep k1 LT.out)
      clear hq p1 k1 n1 HN
      have cc := D1.out.c1
      simp only [Nat.zero_add] at cc
      go_wp2_with fail
      clear cc
      have HN : Calls Try.prog 65 #[.pointer (some ⟨p, 0, none⟩), .int .i64 x.i, .int .i64 2] wq1 (PenPost wq1 B 84 5 p v1 s2) := by
        have := rnum_any wq1 B p v1 s1.1 s1.2 x.i 2 P1.out (Nat.le_trans HB1.out K1.out.size)
        rw [show refNum x.i 2 (s1.1, s1.2) = s2 from E2.out] at this
        exact this
      refine HN.mono ?_
      intro e wq2 hq
      obtain ⟨rfl, v2, p2, k2, n2⟩ := pen_step K1.out N1.out hq
      have P2 := hid p2
      have K2 := hid k2
      have N2 := hid n2
      have D2 := hid (DA.out.keep k2 LT.out)
      clear hq p2 k2 n2 HN
      have cc := D2.out.c2
      simp only [Nat.zero_add] at cc
      go_wp2_with fail
      clear cc
      have HN : Calls Try.prog 65 #[.pointer (some ⟨p, 0, none⟩), .int .i64 x.b, .int .i64 1] wq2 (PenPost wq2 B 84 5 p v2 s3) := by
        have := rnum_any wq2 B p v2 s2.1 s2.2 x.b 1 P2.out (Nat.le_trans HB1.out K2.out.size)
        rw [show refNum x.b 1 (s2.1, s2.2) = s3 from E3.out] at this
        exact this
      refine HN.mono ?_
      intro e wq3 hq
      obtain ⟨rfl, v3, p3, k3, n3⟩ := pen_step K2.out N2.out hq
      have P3 := hid p3
      have K3 := hid k3
      have N3 := hid n3
      have D3 := hid (DA.out.keep k3 LT.out)
      clear hq p3 k3 n3 HN
      have cc := D3.out.c3
      simp only [Nat.zero_add] at cc
      go_wp2_with fail
      clear cc
      have HN : Calls Try.prog 65 #[.pointer (some ⟨p, 0, none⟩), .int .i64 x.s, .int .i64 2] wq3 (PenPost wq3 B 84 5 p v3 s4) := by
        have := rnum_any wq3 B p v3 s3.1 s3.2 x.s 2 P3.out (Nat.le_trans HB1.out K3.out.size)
        rw [show refNum x.s 2 (s3.1, s3.2) = s4 from E4.out] at this
        exact this
      refine HN.mono ?_
      intro e wq4 hq
      obtain ⟨rfl, v4, p4, k4, n4⟩ := pen_step K3.out N3.out hq
      have P4 := hid p4
      have K4 := hid k4
      have N4 := hid n4
      have D4 := hid (DA.out.keep k4 LT.out)
      clear hq p4 k4 n4 HN
      have cc := D4.out.c0
      go_wp2_with (first | (refine wpList_isW rfl _ _ (exec_load _ _ _ _ rfl rfl (loadPt_run _ w.heap.size (0 + 9) x.o D4.out.o)) ?_) | fail)
      refine (rPutPtr_any _ B p v4 s4 x.o P4.out (Nat.le_trans HB1.out K4.out.size)).mono ?_
      intro e wq5 hq
      obtain ⟨rfl, v5, p5, k5, n5⟩ := pen_step K4.out N4.out hq
      have P5 := hid p5
      have K5 := hid k5
      have N5 := hid n5
      have D5 := hid (DA.out.keep k5 LT.out)
      clear hq p5 k5 n5
      go_wp2_with (first | (refine wpList_isW rfl _ _ (exec_load _ _ _ _ rfl rfl (loadPt_run _ w.heap.size (0 + 4) x.t D5.out.t)) ?_) | fail)
      refine (rPutPtr_any _ B p v5 (rputP x.o s4) x.t P5.out (Nat.le_trans HB1.out K5.out.size)).mono ?_
      intro e wq6 hq
      obtain ⟨rfl, v6, p6, k6, n6⟩ := pen_step K5.out N5.out hq
      have P6 := hid p6
      have K6 := hid k6
      have N6 := hid n6
      have D6 := hid (DA.out.keep k6 LT.out)
      clear hq p6 k6 n6
      go_wp2_with fail
      go_end0
      rw [E.out]
      exact PenPost.since KA.out P6.out K6.out N6.out
    · have d3 : (x.d == 3) = false := by simpa using h3
      have E : Hid (rputD x s = s4) := hid (by unfold rputD; rw [if_neg h1, if_neg h3, EH.out])
      clear h1 h3
      go_enter Try.func66, Try.ntmps66
      go_wp2_with (first | (refine wpList_is rfl _ _ (exec_box 49 _ x.cells.toArray rfl rfl) ?_) | fail)
      clear c0
      generalize w.alloc (.cells x.cells.toArray 49) = w1 at KA DA PA HB1 HS ⊢
      have HN : Calls Try.prog 65 #[.pointer (some ⟨p, 0, none⟩), .int .i64 x.d, .int .i64 1] w1 (PenPost w1 B 84 5 p v s1) := by
        have := rnum_any w1 B p v s.1 s.2 x.d 1 PA.out HB1.out
        rw [show refNum x.d 1 (s.1, s.2) = s1 from E1.out] at this
        exact this
      refine HN.mono ?_
      intro e wq1 hq
      obtain ⟨rfl, v1, p1, k1, n1⟩ := pen_step (Keeps.refl _ _) (Or.inl rfl) hq
      have P1 := hid p1
      have K1 := hid k1
      have N1 := hid n1
      have D1 := hid (DA.out.keep k1 LT.out)
      clear hq p1 k1 n1 HN
      have cc := D1.out.c1
      simp only [Nat.zero_add] at cc
      go_wp2_with fail
      clear cc
      have HN : Calls Try.prog 65 #[.pointer (some ⟨p, 0, none⟩), .int .i64 x.i, .int .i64 2] wq1 (PenPost wq1 B 84 5 p v1 s2) := by
        have := rnum_any wq1 B p v1 s1.1 s1.2 x.i 2 P1.out (Nat.le_trans HB1.out K1.out.size)
        rw [show refNum x.i 2 (s1.1, s1.2) = s2 from E2.out] at this
        exact this
      refine HN.mono ?_
      intro e wq2 hq
      obtain ⟨rfl, v2, p2, k2, n2⟩ := pen_step K1.out N1.out hq
      have P2 := hid p2
      have K2 := hid k2
      have N2 := hid n2
      have D2 := hid (DA.out.keep k2 LT.out)
      clear hq p2 k2 n2 HN
      have cc := D2.out.c2
      simp only [Nat.zero_add] at cc
      go_wp2_with fail
      clear cc
      have HN : Calls Try.prog 65 #[.pointer (some ⟨p, 0, none⟩), .int .i64 x.b, .int .i64 1] wq2 (PenPost wq2 B 84 5 p v2 s3) := by
        have := rnum_any wq2 B p v2 s2.1 s2.2 x.b 1 P2.out (Nat.le_trans HB1.out K2.out.size)
        rw [show refNum x.b 1 (s2.1, s2.2) = s3 from E3.out] at this
        exact this
      refine HN.mono ?_
      intro e wq3 hq
      obtain ⟨rfl, v3, p3, k3, n3⟩ := pen_step K2.out N2.out hq
      have P3 := hid p3
      have K3 := hid k3
      have N3 := hid n3
      have D3 := hid (DA.out.keep k3 LT.out)
      clear hq p3 k3 n3 HN
      have cc := D3.out.c3
      simp only [Nat.zero_add] at cc
      go_wp2_with fail
      clear cc
      have HN : Calls Try.prog 65 #[.pointer (some ⟨p, 0, none⟩), .int .i64 x.s, .int .i64 2] wq3 (PenPost wq3 B 84 5 p v3 s4) := by
        have := rnum_any wq3 B p v3 s3.1 s3.2 x.s 2 P3.out (Nat.le_trans HB1.out K3.out.size)
        rw [show refNum x.s 2 (s3.1, s3.2) = s4 from E4.out] at this
        exact this
      refine HN.mono ?_
      intro e wq4 hq
      obtain ⟨rfl, v4, p4, k4, n4⟩ := pen_step K3.out N3.out hq
      have P4 := hid p4
      have K4 := hid k4
      have N4 := hid n4
      have D4 := hid (DA.out.keep k4 LT.out)
      clear hq p4 k4 n4 HN
      have cc := D4.out.c0
      go_wp2_with fail
      go_end0
      rw [E.out]
      exact PenPost.since KA.out P4.out K4.out N4.out
end Go.Proofs.Ytamcllcjondcpaa
