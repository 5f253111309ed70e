/- Structs in new memory: laid, stored, loaded, as single operations. (For every layer.) -/
import Derived.Test.YtoglcohdanpciaaKitA
import Derived.Deep.MidRow
import Derived.Great.BuildSlice
import Derived.Deep.WholeRow
namespace Go.Proofs.Ytoglcohdanpciaa
open Go.RowKit

theorem zero_of {t : TypeId} {z : Value} {n : Nat} (hi : (Try.prog.info? t).map (fun i => (i.zero, i.size)) = some (some z, n)) (w : World) : (zeroValue t).run Try.prog w = .ok z w := by
  cases hq : Try.prog.info? t with
  | none => simp [hq] at hi
  | some i => simp [hq] at hi; simp [zeroValue, typeInfo, hq, hi.1]
theorem size_of' {t : TypeId} {z : Value} {n : Nat} (hi : (Try.prog.info? t).map (fun i => (i.zero, i.size)) = some (some z, n)) : (Try.prog.info? t).map (·.size) = some n := by
  cases hq : Try.prog.info? t with
  | none => simp [hq] at hi
  | some i => simp [hq] at hi; simp [hi.2]

theorem exec_alloc {ρ : Operand → Value} {o : Oper} {w : World} (t : TypeId) (zs : Array Value) {n : Nat} (hi : (Try.prog.info? t).map (fun i => (i.zero, i.size)) = some (some (.agg zs), n)) (ho : o.op = .alloc t) :
    (execOp ρ o).run Try.prog w = .ok (.value (.pointer (some ⟨w.heap.size, 0, none⟩))) (w.alloc (.cells zs t)) := by
  have e : (Value.agg zs).cells = zs := rfl
  simp only [execOp, ho, Instr.alloc, newVar, newRow, Sem.run_bind, zero_of hi, e, Result.andThen_ok, Sem.run_pure, run_newObj_alloc]
theorem exec_box {ρ : Operand → Value} {o : Oper} {w : World} (t : TypeId) (x : Operand) (zs : Array Value) (hx : ρ x = .agg zs) (ho : o.op = .box t x) :
    (execOp ρ o).run Try.prog w = .ok (.value (.pointer (some ⟨w.heap.size, 0, none⟩))) (w.alloc (.cells zs t)) := by
  have e : (Value.agg zs).cells = zs := rfl
  simp [execOp, ho, Instr.box, newVar, newRow, hx, e, Result.andThen]
theorem exec_storeNew {ρ : Operand → Value} {o : Oper} {w : World} (t : TypeId) (x y : Operand) (ho : o.op = .store t x y) (W : World) (c c' : Array Value) (hw : w = W.alloc (.cells c t)) (hx : ρ x = .pointer (some ⟨W.heap.size, 0, none⟩))
    (hy : ρ y = .agg c') {z : Value} (hi : (Try.prog.info? t).map (fun i => (i.zero, i.size)) = some (some z, c'.size)) (hs : c.size = c'.size) (h1 : c'.all (·.oneCell') = true) :
    (execOp ρ o).run Try.prog w = .ok .skip (W.alloc (.cells c' t)) := by
  subst hw
  unfold execOp
  simp only [ho, hx, hy, run_storeAt_new W t c c' (size_of' hi) hs h1, Sem.run_bind, Result.andThen_ok, Sem.run_pure]
theorem exec_storeMid {ρ : Operand → Value} {o : Oper} {w : World} (t : TypeId) (x y : Operand) (ho : o.op = .store t x y) (b off : Nat) (cells : Array Value) (hx : ρ x = .pointer (some ⟨b, off, none⟩))
    (hy : ρ y = .agg cells) (ht : w.there b off cells.size) {z : Value} (hi : (Try.prog.info? t).map (fun i => (i.zero, i.size)) = some (some z, cells.size)) (h1 : cells.all (·.oneCell') = true) :
    (execOp ρ o).run Try.prog w = .ok .skip (w.setCells b off cells.toList) := by
  unfold execOp
  simp only [ho, hx, hy, run_storeAt_mid w b off t cells ht (size_of' hi) h1, Sem.run_bind, Result.andThen_ok, Sem.run_pure]

section
variable {ops : Array Oper} {rest : List Oper} {o : Oper} {a : Act} {w : World} {Q : Exit → Act → World → Prop}
theorem wpList_noval (hgd : o.guard = none) (w' : World) (hrun : (execOp a.eval o).run Try.prog w = .ok .skip w') (h : wpList Try.prog ops Q rest (a.put o.dst undef) w') : wpList Try.prog ops Q (o :: rest) a w := by
  refine wpList_plain hgd fun K hK => ?_
  unfold Oper.wp
  rw [hrun]
  exact hK _ _ h
/-- A guarded one that is wanted. -/
theorem wpList_isW (hw : Region.wanted o (yielded ops a.tmps) = true) (v : Value) (w' : World) (hrun : (execOp a.eval o).run Try.prog w = .ok (.value v) w') (h : wpList Try.prog ops Q rest (a.put o.dst v) w') : wpList Try.prog ops Q (o :: rest) a w := by
  unfold wpList
  rw [if_pos hw]
  refine Or.inl ?_
  unfold Oper.wp
  rw [hrun, Oper.upon_value]
  exact h
end

/-- A struct is read: its cells, one by one. -/
theorem load_row {t : TypeId} {d : TypeDesc} {w : World} {b o : Nat} (cs : List Value) (hu : Try.prog.underlying t = some d) (hd : d.isRow = true) {z : Value} (hi : (Try.prog.info? t).map (fun i => (i.zero, i.size)) = some (some z, cs.length))
    (hc : ∀ j v, cs[j]? = some v → w.cell? ⟨b, o + j, none⟩ = some v) : (Instr.loadAt t (.pointer (some ⟨b, o, none⟩))).run Try.prog w = .ok (.agg cs.toArray) w :=
  run_loadAt_mid w b o t cs d hc hu hd (size_of' hi)

theorem cells3 {w : World} {b o : Nat} {x0 x1 x2 : Value} (c0 : w.cell? ⟨b, o, none⟩ = some x0) (c1 : w.cell? ⟨b, o + 1, none⟩ = some x1) (c2 : w.cell? ⟨b, o + 2, none⟩ = some x2) :
    ∀ j v, [x0, x1, x2][j]? = some v → w.cell? ⟨b, o + j, none⟩ = some v := fun j v hv => by
  match j, hv with
  | 0, hv => simp at hv; subst hv; exact c0
  | 1, hv => simp at hv; subst hv; exact c1
  | 2, hv => simp at hv; subst hv; exact c2
theorem cells4 {w : World} {b o : Nat} {x0 x1 x2 x3 : Value} (c0 : w.cell? ⟨b, o, none⟩ = some x0) (c1 : w.cell? ⟨b, o + 1, none⟩ = some x1) (c2 : w.cell? ⟨b, o + 2, none⟩ = some x2) (c3 : w.cell? ⟨b, o + 3, none⟩ = some x3) :
    ∀ j v, [x0, x1, x2, x3][j]? = some v → w.cell? ⟨b, o + j, none⟩ = some v := fun j v hv => by
  match j, hv with
  | 0, hv => simp at hv; subst hv; exact c0
  | 1, hv => simp at hv; subst hv; exact c1
  | 2, hv => simp at hv; subst hv; exact c2
  | 3, hv => simp at hv; subst hv; exact c3
theorem block_cells3 {W : World} {b : Nat} {x0 x1 x2 : Value} {T : TypeId} (h : W.heap[b]? = some (.cells #[x0, x1, x2] T (0, 0))) :
    W.cell? ⟨b, 0, none⟩ = some x0 ∧ W.cell? ⟨b, 1, none⟩ = some x1 ∧ W.cell? ⟨b, 2, none⟩ = some x2 := by
  simp [World.cell?, h]
theorem block_cells4 {W : World} {b : Nat} {x0 x1 x2 x3 : Value} {T : TypeId} (h : W.heap[b]? = some (.cells #[x0, x1, x2, x3] T (0, 0))) :
    W.cell? ⟨b, 0, none⟩ = some x0 ∧ W.cell? ⟨b, 1, none⟩ = some x1 ∧ W.cell? ⟨b, 2, none⟩ = some x2 ∧ W.cell? ⟨b, 3, none⟩ = some x3 := by
  simp [World.cell?, h]
end Go.Proofs.Ytoglcohdanpciaa
