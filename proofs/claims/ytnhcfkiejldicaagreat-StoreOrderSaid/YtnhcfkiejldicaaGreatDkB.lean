/- Laws for the walk: loads and stores of a disk's rows, sectors and writes; and the disk's small functions. -/
import Derived.Test.YtnhcfkiejldicaaGreatDkA
import Derived.Deep.WholeRow
namespace Go.Proofs.YtnhcfkiejldicaaGreat
open Go.RowKit

section
variable {ops : Array Oper} {rest : List Oper} {o : Oper} {a : Act} {w : World} {Q : Exit → Act → World → Prop}

theorem wpList_loadRow (hgd : o.guard = none) (x : Operand) (ho : o.op = .load 112 x) (b off : Nat) (hx : a.eval x = .pointer (some ⟨b, off, none⟩)) (r : Row) (hc : w.rangeAt b off r.cells)
    (h : wpList Tryz.prog ops Q rest (a.put o.dst (rowV r)) w) : wpList Tryz.prog ops Q (o :: rest) a w :=
  wpList_load_mid hgd _ x ho b off hx r.cells _ hc uRow rfl (by rw [sRow, r.len]) h

theorem wpList_loadSec (hgd : o.guard = none) (x : Operand) (ho : o.op = .load 116 x) (b off : Nat) (hx : a.eval x = .pointer (some ⟨b, off, none⟩)) (r s : Row) (hc : w.rangeAt b off (r.cells ++ s.cells))
    (h : wpList Tryz.prog ops Q rest (a.put o.dst (secV r s)) w) : wpList Tryz.prog ops Q (o :: rest) a w :=
  wpList_load_mid hgd _ x ho b off hx (r.cells ++ s.cells) _ hc uSec rfl (by rw [sSec]; simp) h

theorem wpList_loadWr (hgd : o.guard = none) (x : Operand) (ho : o.op = .load 114 x) (b off : Nat) (hx : a.eval x = .pointer (some ⟨b, off, none⟩)) (n : Int) (r : Row) (hc : w.rangeAt b off (.int .i64 n :: r.cells))
    (h : wpList Tryz.prog ops Q rest (a.put o.dst (wrV n r)) w) : wpList Tryz.prog ops Q (o :: rest) a w :=
  wpList_load_mid hgd _ x ho b off hx (.int .i64 n :: r.cells) _ hc uWr rfl (by rw [sWr]; simp) h

/-- A value into a variable that was laid last. -/
theorem wpList_storeNew (hgd : o.guard = none) (t : TypeId) (x y : Operand) (ho : o.op = .store t x y) (W : World) (c c' : Array Value) (hw : w = W.alloc (.cells c t)) (hx : a.eval x = .pointer (some ⟨W.heap.size, 0, none⟩))
    (hy : a.eval y = .agg c') (hi : (Tryz.prog.info? t).map (·.size) = some c'.size) (hs : c.size = c'.size) (h1 : c'.all (·.oneCell') = true)
    (h : wpList Tryz.prog ops Q rest (a.put o.dst undef) (W.alloc (.cells c' t))) : wpList Tryz.prog ops Q (o :: rest) a w := by
  subst hw
  refine wpList_plain hgd fun _ hK => ?_
  unfold Oper.wp execOp
  simp only [ho, hx, hy, run_storeAt_new W t c c' hi hs h1, Sem.run_bind, Result.andThen_ok]
  exact hK _ _ h

end

theorem secV_size (a b : Row) : (a.cells ++ b.cells).toArray.size = 128 := by simp
theorem secV_one (a b : Row) : (a.cells ++ b.cells).toArray.all (·.oneCell') = true := all_oneCell_toArray fun v hv => by
  rcases List.mem_append.1 hv with h | h
  · exact a.one v h
  · exact b.one v h
theorem wrV_one (n : Int) (b : Row) : (Value.int .i64 n :: b.cells).toArray.all (·.oneCell') = true := all_oneCell_toArray fun v hv => by
  rcases List.mem_cons.1 hv with rfl | h
  · rfl
  · exact b.one v h

theorem rangeNew (w : World) (l : List Value) (t : TypeId) : (w.alloc (.cells l.toArray t)).rangeAt w.heap.size 0 l := fun j v hv => by
  rw [Nat.zero_add, cell_of_row _ _ j l.toArray t (0, 0) (heap_alloc_new w _)]
  simpa using hv

theorem rowV_cells (r : Row) : (rowV r).cells = r.cells.toArray := rfl
theorem secV_cells (r s : Row) : (secV r s).cells = (r.cells ++ s.cells).toArray := rfl
theorem wrV_cells (n : Int) (r : Row) : (wrV n r).cells = (.int .i64 n :: r.cells).toArray := rfl

theorem wpList_storeSecNew {ops : Array Oper} {rest : List Oper} {o : Oper} {a : Act} {w : World} {Q : Exit → Act → World → Prop} (hgd : o.guard = none) (x y : Operand) (ho : o.op = .store 116 x y) (W : World) (p q r s : Row) (hw : w = W.alloc (.cells (p.cells ++ q.cells).toArray 116)) (N : Nat) (hx : a.eval x = .pointer (some ⟨N, 0, none⟩)) (hN : N = W.heap.size)
    (hy : a.eval y = secV r s)
    (h : wpList Tryz.prog ops Q rest (a.put o.dst undef) (W.alloc (.cells (r.cells ++ s.cells).toArray 116))) : wpList Tryz.prog ops Q (o :: rest) a w := by
  subst hN
  exact wpList_storeNew hgd 116 x y ho W _ _ hw hx hy (by rw [sSec]; simp) (by simp) (secV_one _ _) h

section
variable {ops : Array Oper} {rest : List Oper} {o : Oper} {a : Act} {w : World} {Q : Exit → Act → World → Prop}

theorem wpList_is (hgd : o.guard = none) (v : Value) (w' : World) (hrun : (execOp a.eval o).run Tryz.prog w = .ok (.value v) w') (h : wpList Tryz.prog ops Q rest (a.put o.dst v) w') : wpList Tryz.prog ops Q (o :: rest) a w := by
  refine wpList_plain hgd fun K hK => ?_
  unfold Oper.wp
  rw [hrun, Oper.upon_value]
  exact hK _ _ h

theorem wpList_boxRow (hgd : o.guard = none) (x : Operand) (ho : o.op = .box 112 x) (r : Row) (hx : a.eval x = rowV r)
    (h : wpList Tryz.prog ops Q rest (a.put o.dst (.pointer (some ⟨w.heap.size, 0, none⟩))) (w.alloc (.cells r.cells.toArray 112))) : wpList Tryz.prog ops Q (o :: rest) a w := by
  refine wpList_is hgd _ _ ?_ h
  simp [execOp, ho, Instr.box, newVar, newRow, hx, rowV_cells, Result.andThen]

theorem wpList_boxSec (hgd : o.guard = none) (x : Operand) (ho : o.op = .box 116 x) (r s : Row) (hx : a.eval x = secV r s)
    (h : wpList Tryz.prog ops Q rest (a.put o.dst (.pointer (some ⟨w.heap.size, 0, none⟩))) (w.alloc (.cells (r.cells ++ s.cells).toArray 116))) : wpList Tryz.prog ops Q (o :: rest) a w := by
  refine wpList_is hgd _ _ ?_ h
  simp [execOp, ho, Instr.box, newVar, newRow, hx, secV_cells, Result.andThen]

theorem wpList_allocRow (hgd : o.guard = none) (ho : o.op = .alloc 112)
    (h : wpList Tryz.prog ops Q rest (a.put o.dst (.pointer (some ⟨w.heap.size, 0, none⟩))) (w.alloc (.cells zrow.cells.toArray 112))) : wpList Tryz.prog ops Q (o :: rest) a w := by
  refine wpList_is hgd _ _ ?_ h
  simp only [execOp, ho, Instr.alloc, newVar, newRow, Sem.run_bind, zeroRow, rowV_cells, Result.andThen_ok, Sem.run_pure, run_newObj_alloc]

theorem wpList_allocSec (hgd : o.guard = none) (ho : o.op = .alloc 116)
    (h : wpList Tryz.prog ops Q rest (a.put o.dst (.pointer (some ⟨w.heap.size, 0, none⟩))) (w.alloc (.cells (zrow.cells ++ zrow.cells).toArray 116))) : wpList Tryz.prog ops Q (o :: rest) a w := by
  refine wpList_is hgd _ _ ?_ h
  simp only [execOp, ho, Instr.alloc, newVar, newRow, Sem.run_bind, zeroSec, secV_cells, Result.andThen_ok, Sem.run_pure, run_newObj_alloc]

theorem wpList_allocWr (hgd : o.guard = none) (ho : o.op = .alloc 114)
    (h : wpList Tryz.prog ops Q rest (a.put o.dst (.pointer (some ⟨w.heap.size, 0, none⟩))) (w.alloc (.cells (.int .i64 0 :: zrow.cells).toArray 114))) : wpList Tryz.prog ops Q (o :: rest) a w := by
  refine wpList_is hgd _ _ ?_ h
  simp only [execOp, ho, Instr.alloc, newVar, newRow, Sem.run_bind, zeroWr, wrV_cells, Result.andThen_ok, Sem.run_pure, run_newObj_alloc]

theorem wpList_buildSec (hgd : o.guard = none) (x y : Operand) (ho : o.op = .build 116 #[(0, x), (1, y)]) (r s : Row) (hx : a.eval x = rowV r) (hy : a.eval y = rowV s)
    (h : wpList Tryz.prog ops Q rest (a.put o.dst (secV r s)) w) : wpList Tryz.prog ops Q (o :: rest) a w := by
  refine wpList_is hgd _ _ ?_ h
  have := run_buildSec r s w
  simp only [execOp, ho, List.map_toArray, List.map_cons, List.map_nil, hx, hy, Sem.run_bind, this, Result.andThen_ok, Sem.run_pure]

theorem wpList_buildZero (hgd : o.guard = none) (ho : o.op = .build 116 #[])
    (h : wpList Tryz.prog ops Q rest (a.put o.dst (secV zrow zrow)) w) : wpList Tryz.prog ops Q (o :: rest) a w := by
  refine wpList_is hgd _ _ ?_ h
  have := run_buildZero w
  simp only [execOp, ho, List.map_toArray, List.map_nil, Sem.run_bind, this, Result.andThen_ok, Sem.run_pure]

theorem wpList_buildWr (hgd : o.guard = none) (x y : Operand) (ho : o.op = .build 114 #[(0, x), (1, y)]) (n : Int) (r : Row) (hx : a.eval x = .int .i64 n) (hy : a.eval y = rowV r)
    (h : wpList Tryz.prog ops Q rest (a.put o.dst (wrV n r)) w) : wpList Tryz.prog ops Q (o :: rest) a w := by
  refine wpList_is hgd _ _ ?_ h
  have := run_buildWr n r w
  simp only [execOp, ho, List.map_toArray, List.map_cons, List.map_nil, hx, hy, Sem.run_bind, this, Result.andThen_ok, Sem.run_pure]

theorem wpList_fieldNow (hgd : o.guard = none) (x : Operand) (ho : o.op = .field 116 x 0) (r s : Row) (hx : a.eval x = secV r s)
    (h : wpList Tryz.prog ops Q rest (a.put o.dst (rowV r)) w) : wpList Tryz.prog ops Q (o :: rest) a w := by
  refine wpList_is hgd _ _ ?_ h
  simp only [execOp, ho, hx, Sem.run_bind, run_fieldNow r s w, Result.andThen_ok, Sem.run_pure]

theorem wpList_eqSec (hgd : o.guard = none) (x y : Operand) (u : TypeId) (ho : o.op = .binOp .eql 116 x y u) (r s p q : Row) (hx : a.eval x = secV r s) (hy : a.eval y = secV p q) (t : Bool) (ht : (decide (r = p) && decide (s = q)) = t)
    (h : wpList Tryz.prog ops Q rest (a.put o.dst (.bool t)) w) : wpList Tryz.prog ops Q (o :: rest) a w := by
  refine wpList_is hgd _ _ ?_ h
  simp only [execOp, ho, hx, hy, Sem.run_bind, guardSec r s p q x y w, run_eqSec r s p q w, Result.andThen_ok, Sem.run_pure, ht]
end

set_option maxRecDepth 100000 in
theorem lasting_any (r : Row) (w : World) : Calls Tryz.prog 76 #[rowV r] w fun e w' => e = .returned (secV r r) ∧ Keeps [] w w' := by
  go_enter Tryz.func76, Tryz.ntmps76
  go_wp2_with (first | (refine wpList_boxRow rfl _ rfl _ rfl ?_) | (refine wpList_allocSec rfl rfl ?_) | (refine wpList_buildSec rfl _ _ rfl _ _ rfl rfl ?_) | (refine wpList_loadRow rfl _ rfl _ _ rfl r (World.rangeAt_alloc (rangeNew _ _ _) _) ?_) | (refine wpList_storeSecNew rfl _ _ rfl _ _ _ _ _ rfl _ rfl (by simp) rfl ?_) | fail)
  refine bodyPost_ret (results_cell_row (p := 2) (ty := 116) rfl _ _ _ 116 (r.cells ++ r.cells).toArray (0, 0) _ rfl ?_ uSec rfl (by rw [sSec]; simp)) rfl ?_
  · have := heap_alloc_new (w.alloc (.cells r.cells.toArray 112)) (.cells (r.cells ++ r.cells).toArray 116)
    simpa using this
  · exact ⟨rfl, ((Keeps.refl _ _).alloc _).alloc _⟩


/-- The state of a disk, as the document has it. -/
structure DS where
  cnt : Nat
  now : Nat → Row
  las : Nat → Row
  loose : List (Nat × Row)
  fuse : Int
  ops : Int
  dead : Bool

/-- How a map's sector reads. -/
noncomputable def RS (v : Value) : Option (DataW (Row × Row) × List MemPlace) := by
  classical exact if h : ∃ p : Row × Row, v = secV p.1 p.2 then some (.held (Classical.choose h), []) else none

theorem secV_inj {a b c d : Row} (h : secV a b = secV c d) : a = c ∧ b = d := by
  have h1 : a.cells ++ b.cells = c.cells ++ d.cells := by
    unfold secV at h
    injection h with h
    simpa using h
  have h2 := List.append_inj h1 (by simp)
  exact ⟨Row.ext_cells h2.1, Row.ext_cells h2.2⟩

theorem RS_sec (a b : Row) : RS (secV a b) = some (.held (a, b), []) := by
  have h : ∃ p : Row × Row, secV a b = secV p.1 p.2 := ⟨(a, b), rfl⟩
  unfold RS
  rw [dif_pos h]
  have := Classical.choose_spec h
  have e := secV_inj this
  simp only [Option.some.injEq, Prod.mk.injEq, DataW.held.injEq, and_true]
  exact Prod.ext e.1.symm e.2.symm

theorem RS_inv {v : Value} {z : DataW (Row × Row) × List MemPlace} (h : RS v = some z) : ∃ a b, v = secV a b ∧ z = (.held (a, b), []) := by
  unfold RS at h
  split at h
  · rename_i hp
    obtain ⟨p, hv⟩ := hp
    refine ⟨p.1, p.2, hv, ?_⟩
    have := RS_sec p.1 p.2
    subst hv
    unfold RS at this
    rw [dif_pos ⟨p, rfl⟩] at this
    cases h
    simpa using this
  · cases h

end Go.Proofs.YtnhcfkiejldicaaGreat
