/- note: SameRequest. -/
import Derived.Test.YtoglcohdanpciaaNtL
import Derived.Test.YtoglcohdanpciaaDeO
namespace Go.Proofs.Ytoglcohdanpciaa
open Go.RowKit Go.Shelf
set_option maxRecDepth 100000
set_option linter.unusedSimpArgs false
set_option linter.unusedVariables false

/-- Structs of three numbers, compared. -/
theorem eqIn3 (T : TypeId) (f1 : Try.prog.underlying T = some (.struct (Try.prog.fieldsOf T))) (hp : Try.prog.stoodInHeld T = false) (g1 : (Try.prog.fieldsOf T).toList.map (fun f => (f.name != "_", f.type, f.offset)) = [(true, 3, 0), (true, 3, 1), (true, 3, 2)]) (n : Nat) (w : World) (a1 a2 a3 b1 b2 b3 : Int) :
    (Op.equalIn (n + 1 + 1) T (.agg #[.int .i64 a1, .int .i64 a2, .int .i64 a3]) (.agg #[.int .i64 b1, .int .i64 b2, .int .i64 b3])).run Try.prog w = .ok (a1 == b1 && a2 == b2 && a3 == b3) w := by
  have p1 : ∀ (x y z : Int) w, (part 3 #[.int .i64 x, .int .i64 y, .int .i64 z] 0).run Try.prog w = .ok (.int .i64 x) w := fun x y z w => by kernel_rfl
  have p2 : ∀ (x y z : Int) w, (part 3 #[.int .i64 x, .int .i64 y, .int .i64 z] 1).run Try.prog w = .ok (.int .i64 y) w := fun x y z w => by kernel_rfl
  have p3 : ∀ (x y z : Int) w, (part 3 #[.int .i64 x, .int .i64 y, .int .i64 z] 2).run Try.prog w = .ok (.int .i64 z) w := fun x y z w => by kernel_rfl
  have u : Try.prog.underlying 3 = some (.int .i64) := by kernel_rfl
  have i9 : ∀ (x y : Int) (w : World), (Op.equalIn (n + 1) 3 (.int .i64 x) (.int .i64 y)).run Try.prog w = .ok (x == y) w := fun x y w => run_equalIn_int w n 3 .i64 .i64 x y u
  rw [run_equalIn_agg w (n + 1) T _ _ f1 hp]
  generalize (Try.prog.fieldsOf T).toList = fs at g1 ⊢
  obtain ⟨x, y, v, rfl⟩ : ∃ x y v, fs = [x, y, v] := by
    have hl := congrArg List.length g1
    rw [List.length_map] at hl
    match fs, hl with
    | [x, y, v], _ => exact ⟨x, y, v, rfl⟩
  simp only [List.map_cons, List.map_nil, List.cons.injEq, Prod.mk.injEq, and_true, bne_iff_ne] at g1
  obtain ⟨⟨n1, t1, o1⟩, ⟨n2, t2, o2⟩, n3, t3, o3⟩ := g1
  cases h1 : a1 == b1 <;> cases h2 : a2 == b2 <;> cases h3 : a3 == b3 <;>
    simp only [Op.eqFields, n1, n2, n3, t1, t2, t3, o1, o2, o3, p1, p2, p3, h1, h2, h3, i9, if_true, if_false, Bool.not_true, Bool.not_false, Bool.false_eq_true, Sem.run_bind, Sem.run_ite, Sem.run_pure, Result.andThen_ok, ne_eq, not_false_eq_true, Bool.and_true, Bool.and_false, Bool.false_and, Bool.true_and]
theorem exec_neqSp {ρ : Operand → Value} {o : Oper} {w : World} (x y : Operand) (u : TypeId) (a b : Rq) (z : Bool) (ho : o.op = .binOp .neq 85 x y u) (hx : ρ x = .agg #[.int .i64 a.cl, .int .i64 a.lf, .int .i64 a.sq]) (hy : ρ y = .agg #[.int .i64 b.cl, .int .i64 b.lf, .int .i64 b.sq])
    (hz : (!(a.cl == b.cl && a.lf == b.lf && a.sq == b.sq)) = z) : (execOp ρ o).run Try.prog w = .ok (.value (.bool z)) w := by
  subst hz
  have hg : (eqGuard .neq 85 x y (.agg #[.int .i64 a.cl, .int .i64 a.lf, .int .i64 a.sq]) (.agg #[.int .i64 b.cl, .int .i64 b.lf, .int .i64 b.sq])).run Try.prog w = .ok () w := run_eqGuard_agg w .neq 85 x y _ _ (by kernel_rfl)
  have h := eqIn3 85 (by kernel_rfl) (by kernel_rfl) (by kernel_rfl) 9998 w a.cl a.lf a.sq b.cl b.lf b.sq
  have hn : (binOp .neq 85 (.agg #[.int .i64 a.cl, .int .i64 a.lf, .int .i64 a.sq]) (.agg #[.int .i64 b.cl, .int .i64 b.lf, .int .i64 b.sq])).run Try.prog w = .ok (.bool (!(a.cl == b.cl && a.lf == b.lf && a.sq == b.sq))) w := by
    rw [run_neq_struct, h]
    rfl
  simp only [execOp, ho, hx, hy, Sem.run_bind, hg, hn, Result.andThen_ok, Sem.run_pure]
def eqSz (a b : Sz) : Bool := (a.c == b.c && a.l == b.l && a.n == b.n) && a.s == b.s
theorem eqSz_is {a b : Sz} : eqSz a b = true ↔ a = b := by
  obtain ⟨a1, a2, a3, a4⟩ := a
  obtain ⟨b1, b2, b3, b4⟩ := b
  unfold eqSz
  simp only [Sz.mk.injEq, Bool.and_eq_true, beq_iff_eq, and_assoc]
theorem eqInSz (w : World) (a b : Sz) : (Op.equalIn 10000 143 (KSz.v a) (KSz.v b)).run Try.prog w = .ok (eqSz a b) w := by
  have f1 : Try.prog.underlying 143 = some (.struct (Try.prog.fieldsOf 143)) := by kernel_rfl
  have p1 : ∀ (z : Sz) w, (part 30 #[.int .i64 z.c, .int .i64 z.l, .int .i64 z.n, .int .i64 z.s] 0).run Try.prog w = .ok (.agg #[.int .i64 z.c, .int .i64 z.l, .int .i64 z.n]) w := fun z w => by kernel_rfl
  have p2 : ∀ (z : Sz) w, (part 3 #[.int .i64 z.c, .int .i64 z.l, .int .i64 z.n, .int .i64 z.s] 3).run Try.prog w = .ok (.int .i64 z.s) w := fun z w => by kernel_rfl
  have u : Try.prog.underlying 3 = some (.int .i64) := by kernel_rfl
  have i9 : ∀ (x y : Int) (w : World), (Op.equalIn 9999 3 (.int .i64 x) (.int .i64 y)).run Try.prog w = .ok (x == y) w := fun x y w => run_equalIn_int w 9998 3 .i64 .i64 x y u
  have s9 : ∀ (w : World), (Op.equalIn 9999 30 (.agg #[.int .i64 a.c, .int .i64 a.l, .int .i64 a.n]) (.agg #[.int .i64 b.c, .int .i64 b.l, .int .i64 b.n])).run Try.prog w = .ok (a.c == b.c && a.l == b.l && a.n == b.n) w := fun w => eqIn3 30 (by kernel_rfl) (by kernel_rfl) (by kernel_rfl) 9997 w _ _ _ _ _ _
  have g1 : (Try.prog.fieldsOf 143).toList.map (fun f => (f.name != "_", f.type, f.offset)) = [(true, 30, 0), (true, 3, 3)] := by kernel_rfl
  have ea : KSz.v a = .agg #[.int .i64 a.c, .int .i64 a.l, .int .i64 a.n, .int .i64 a.s] := rfl
  have eb : KSz.v b = .agg #[.int .i64 b.c, .int .i64 b.l, .int .i64 b.n, .int .i64 b.s] := rfl
  unfold eqSz
  rw [ea, eb, run_equalIn_agg w 9999 143 _ _ f1 (by kernel_rfl)]
  generalize (Try.prog.fieldsOf 143).toList = fs at g1 ⊢
  obtain ⟨x, y, rfl⟩ : ∃ x y, fs = [x, y] := by
    have hl := congrArg List.length g1
    rw [List.length_map] at hl
    match fs, hl with
    | [x, y], _ => exact ⟨x, y, rfl⟩
  simp only [List.map_cons, List.map_nil, List.cons.injEq, Prod.mk.injEq, and_true, bne_iff_ne] at g1
  obtain ⟨⟨n1, t1, o1⟩, n2, t2, o2⟩ := g1
  cases h1 : (a.c == b.c && a.l == b.l && a.n == b.n) <;> cases h2 : a.s == b.s <;>
    simp only [Op.eqFields, n1, n2, t1, t2, o1, o2, p1, p2, h1, h2, i9, s9, if_true, if_false, Bool.not_true, Bool.not_false, Bool.false_eq_true, Sem.run_bind, Sem.run_ite, Sem.run_pure, Result.andThen_ok, ne_eq, not_false_eq_true, Bool.and_true, Bool.and_false, Bool.false_and, Bool.true_and]
theorem exec_neqSz {ρ : Operand → Value} {o : Oper} {w : World} (x y : Operand) (u : TypeId) (a b : Sz) (ho : o.op = .binOp .neq 143 x y u) (hx : ρ x = KSz.v a) (hy : ρ y = KSz.v b) : (execOp ρ o).run Try.prog w = .ok (.value (.bool (!eqSz a b))) w := by
  have hg : (eqGuard .neq 143 x y (KSz.v a) (KSz.v b)).run Try.prog w = .ok () w := run_eqGuard_agg w .neq 143 x y _ _ (by kernel_rfl)
  have hn : (binOp .neq 143 (KSz.v a) (KSz.v b)).run Try.prog w = .ok (.bool (!eqSz a b)) w := by
    have h := eqInSz w a b
    unfold Kn.v at h ⊢
    rw [run_neq_struct]
    simp [h, Result.andThen]
  simp only [execOp, ho, hx, hy, Sem.run_bind, hg, hn, Result.andThen_ok, Sem.run_pure]
theorem load_sp (W : World) (g : Nat) (r : Rq) (a b : Value) (h : W.rangeAt g 0 (r.cells a b)) : (Instr.loadAt 85 (.pointer (some ⟨g, 0, none⟩))).run Try.prog W = .ok (.agg #[.int .i64 r.cl, .int .i64 r.lf, .int .i64 r.sq]) W := by
  obtain ⟨d, hd, hr⟩ : ∃ d, Try.prog.underlying 85 = some d ∧ d.isRow = true := ⟨_, Try.underlying85, rfl⟩
  refine run_loadAt_mid W g 0 85 [.int .i64 r.cl, .int .i64 r.lf, .int .i64 r.sq] d (fun j u hu => h j u ?_) hd hr (by kernel_rfl)
  match j, hu with
  | 0, hu => exact hu
  | 1, hu => exact hu
  | 2, hu => exact hu
end Go.Proofs.Ytoglcohdanpciaa
