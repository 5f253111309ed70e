/- The code's tree: made, isDir, find, Look, Has. -/
import Derived.Test.YtnmiffkflnlanaaTrB
import Derived.Test.YtnmiffkflnlanaaNaH
import Derived.Deep.LoopGhost
namespace Go.Proofs.Ytnmiffkflnlanaa
open Go.RowKit
set_option maxRecDepth 100000

theorem uThing : Try.prog.underlying 65 = some (.struct (Try.prog.fieldsOf 65)) := by kernel_rfl
theorem iThing : (Try.prog.info? 65).map (fun i => (i.zero, i.size)) = some (some (tgV tg0 0), 4) := by kernel_rfl
theorem sThing : (Try.prog.info? 65).map (·.size) = some 4 := by kernel_rfl
theorem uPlace : Try.prog.underlying 62 = some (.struct (Try.prog.fieldsOf 62)) := by kernel_rfl
theorem sPlace : (Try.prog.info? 62).map (·.size) = some 2 := by kernel_rfl
def plC (d : Nat) (s : List UInt8) : List Value := [numN d, bstr s]
def plV (d : Nat) (s : List UInt8) : Value := .agg (plC d s).toArray
theorem iPlace : (Try.prog.info? 62).map (fun i => (i.zero, i.size)) = some (some (plV 0 []), 2) := by kernel_rfl
theorem loadTg_run (W : World) (b off : Nat) (x : Tg) (g : Nat) (hc : W.rangeAt b off (tgC x g)) : (Instr.loadAt 65 (.pointer (some ⟨b, off, none⟩))).run Try.prog W = .ok (tgV x g) W :=
  run_loadAt_mid W b off 65 (tgC x g) _ hc uThing rfl (by rw [sThing]; rfl)
theorem loadPl_run (W : World) (b off : Nat) (d : Nat) (s : List UInt8) (hc : W.rangeAt b off (plC d s)) : (Instr.loadAt 62 (.pointer (some ⟨b, off, none⟩))).run Try.prog W = .ok (plV d s) W :=
  run_loadAt_mid W b off 62 (plC d s) _ hc uPlace rfl (by rw [sPlace]; rfl)
section
variable {ops : Array Oper} {rest : List Oper} {o : Oper} {a : Act} {w : World} {Q : Exit → Act → World → Prop}
theorem wpList_loadTg (hgd : o.guard = none) (x : Operand) (ho : o.op = .load 65 x) (b off : Nat) (hx : a.eval x = .pointer (some ⟨b, off, none⟩)) (t : Tg) (g : Nat) (hc : w.rangeAt b off (tgC t g))
    (hk : wpList Try.prog ops Q rest (a.put o.dst (tgV t g)) w) : wpList Try.prog ops Q (o :: rest) a w :=
  wpList_load_mid hgd _ x ho b off hx (tgC t g) _ hc uThing rfl (by rw [sThing]; rfl) hk
theorem wpList_loadPl (hgd : o.guard = none) (x : Operand) (ho : o.op = .load 62 x) (b off : Nat) (hx : a.eval x = .pointer (some ⟨b, off, none⟩)) (d : Nat) (s : List UInt8) (hc : w.rangeAt b off (plC d s))
    (hk : wpList Try.prog ops Q rest (a.put o.dst (plV d s)) w) : wpList Try.prog ops Q (o :: rest) a w :=
  wpList_load_mid hgd _ x ho b off hx (plC d s) _ hc uPlace rfl (by rw [sPlace]; rfl) hk
theorem wpList_boxTg (hgd : o.guard = none) (x : Operand) (ho : o.op = .box 65 x) (t : Tg) (g : Nat) (hx : a.eval x = tgV t g)
    (hk : wpList Try.prog ops Q rest (a.put o.dst (.pointer (some ⟨w.heap.size, 0, none⟩))) (w.alloc (.cells (tgC t g).toArray 65))) : wpList Try.prog ops Q (o :: rest) a w := by
  refine wpList_is hgd _ _ ?_ hk
  simp [execOp, ho, Instr.box, newVar, newRow, hx, tgV, Value.cells, Result.andThen]
theorem wpList_boxPl (hgd : o.guard = none) (x : Operand) (ho : o.op = .box 62 x) (d : Nat) (s : List UInt8) (hx : a.eval x = plV d s)
    (hk : wpList Try.prog ops Q rest (a.put o.dst (.pointer (some ⟨w.heap.size, 0, none⟩))) (w.alloc (.cells (plC d s).toArray 62))) : wpList Try.prog ops Q (o :: rest) a w := by
  refine wpList_is hgd _ _ ?_ hk
  simp [execOp, ho, Instr.box, newVar, newRow, hx, plV, Value.cells, Result.andThen]
theorem wpList_lookT (hg : o.guard = none) (x y : Operand) (ho : o.op = .lookup 63 x y true) (m n : Nat) (f : List UInt8 → Nat) (h : MapT w m n f) (hx : a.eval x = .map (some m)) (s : List UInt8) (hs : s.length ≤ maxLen) (hy : a.eval y = bstr s)
    (hK : wpList Try.prog ops Q rest (a.put o.dst (.tuple #[numN (f s), .bool (f s != 0)])) w) : wpList Try.prog ops Q (o :: rest) a w := by
  refine wpList_is hg _ _ ?_ hK
  simp only [execOp, ho, hx, hy, Sem.run_bind, h.look s hs, Result.andThen_ok, Sem.run_pure]
end

theorem made_any10 (w : World) (q c : Nat) (X : Nat → Tg) (G : Nat → Nat) (K : Nat → List UInt8 → Nat) (M : MidIn w q X G K c) (h1 : (X 1).there = true) :
    Calls Try.prog 46 #[.pointer (some ⟨q, 0, none⟩)] w fun e w' => e = .returned (.bool true) ∧ w = w' := by
  have c0 := M.c0 1 (by omega)
  rw [h1] at c0
  clear M h1
  go_enter Try.func46, Try.ntmps46
  go_wp2_with fail
  go_ret
  exact ⟨rfl, rfl⟩

theorem neq_map0 (w : World) : (Go.binOp .neq 63 (.map none) (.map none)).run Try.prog w = .ok (.bool false) w := by kernel_rfl
theorem neq_map1 (m : Nat) (w : World) : (Go.binOp .neq 63 (.map (some m)) (.map none)).run Try.prog w = .ok (.bool true) w := by kernel_rfl
theorem eql_map0 (w : World) : (Go.binOp .eql 63 (.map none) (.map none)).run Try.prog w = .ok (.bool true) w := by kernel_rfl
theorem eql_map1 (m : Nat) (w : World) : (Go.binOp .eql 63 (.map (some m)) (.map none)).run Try.prog w = .ok (.bool false) w := by kernel_rfl

theorem isDir_any10 (w : World) (x : Tg) (g : Nat) : Calls Try.prog 34 #[tgV x g] w fun e w' => e = .returned (.bool x.dir) ∧ Keeps [] w w' := by
  have hc := block_cells4 (W := w.alloc (.cells (tgC x g).toArray 65)) (heap_alloc_new w _)
  have c3 := hc.2.2.2
  clear hc
  cases hd : x.dir with
  | false =>
    rw [hd] at c3
    simp only [Bool.false_eq_true, if_false] at c3
    have B := neq_map0
    go_enter Try.func34, Try.ntmps34
    go_wp2_with (first | (refine wpList_boxTg rfl _ rfl x g rfl ?_) | fail)
    go_ret
    exact ⟨rfl, (Keeps.refl [] w).alloc _⟩
  | true =>
    rw [hd] at c3
    simp only [if_true] at c3
    have B := neq_map1 g
    go_enter Try.func34, Try.ntmps34
    go_wp2_with (first | (refine wpList_boxTg rfl _ rfl x g rfl ?_) | fail)
    go_ret
    exact ⟨rfl, (Keeps.refl [] w).alloc _⟩

def findR (T : TL) (p : List UInt8) : Nat × Int := match splitN p with | none => (0, 12) | some l => walkT T 1 l
end Go.Proofs.Ytnmiffkflnlanaa
