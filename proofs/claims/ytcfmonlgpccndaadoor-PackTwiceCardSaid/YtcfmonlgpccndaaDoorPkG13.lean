/- LyG. -/
import Derived.Test.YtcfmonlgpccndaaDoorPkG12
/- layout: a fragment is read (read, which gives up). -/
namespace Go.Proofs.YtcfmonlgpccndaaDoor
open Go.RowKit
set_option maxRecDepth 100000
set_option linter.unusedSimpArgs false
set_option linter.unusedVariables false

theorem iHead : (Tryd.prog.info? 104).map (fun i => (i.zero, i.size)) = some (some (.agg #[.int .i64 0, .int .i64 0, .int .i64 0, .int .i64 0, .int .i64 0, .int .i64 0]), 6) := by kernel_rfl
theorem uHead : Tryd.prog.underlying 104 = some (.struct (Tryd.prog.fieldsOf 104)) := by kernel_rfl
theorem sHead : (Tryd.prog.info? 104).map (·.size) = some 6 := by kernel_rfl
theorem loadHd (W : World) (b off : Nat) (h : Hd13) (hc : W.rangeAt b off h.cells) : (Instr.loadAt 104 (.pointer (some ⟨b, off, none⟩))).run Tryd.prog W = .ok (hdV13 h) W :=
  run_loadAt_mid W b off 104 h.cells _ hc uHead rfl (by rw [sHead]; rfl)
def frV (h : Hd13) (v : Value) : Value := .agg #[.int .i64 h.s.c, .int .i64 h.s.l, .int .i64 h.s.n, .int .i64 h.i, .int .i64 h.n, .int .i64 h.z, v]
theorem exec_sliceK {ρ : Operand → Value} {o : Oper} {w : World} (t : TypeId) (x : Operand) (lo hi mx : Option Operand) (v : Value) (ho : o.op = .slice t x lo hi mx) (h : (Instr.sliceAt t (ρ x) (lo.map ρ) (hi.map ρ) (mx.map ρ)).run Tryd.prog w = .ok v w) : (execOp ρ o).run Tryd.prog w = .ok (.value v) w := by
  simp [execOp, ho, h, Result.andThen]
theorem exec_minK {ρ : Operand → Value} {o : Oper} {w : World} (x y : Operand) (ho : o.op = .call { callee := .builtin .min, args := #[x, y], argTypes := #[3, 3] }) (ht : o.type = 3) (a b m : Int) (hx : ρ x = .int .i64 a) (hy : ρ y = .int .i64 b) (hm : m = min a b) :
    (execOp ρ o).run Tryd.prog w = .ok (.value (.int .i64 m)) w := by
  subst hm
  rcases Int.le_total a b with h | h
  · rw [Int.min_eq_left h]
    simp [execOp, ho, ht, hx, hy, resolve, invoke, builtin, Result.andThen, Builtin.min_, Builtin.min2]
    try omega
  · rw [Int.min_eq_right h]
    simp [execOp, ho, ht, hx, hy, resolve, invoke, builtin, Result.andThen, Builtin.min_, Builtin.min2]
    try omega
theorem setRow_keeps13 {w : World} {b : Nat} {cur cs : Array Value} {T : TypeId} (h : w.heap[b]? = some (.cells cur T (0, 0))) : (w.setRow b cs).heap[b]? = some (.cells cs T (0, 0)) ∧ Keeps [b] w (w.setRow b cs) :=
  ⟨setRow_heap w b cur cs T (0, 0) h, ⟨rfl, rfl, rfl, by simp [World.setRow], fun k _ hm => setRow_other w b k cs (by simpa using hm)⟩⟩
/-- What the reader leaves: the fragment, or it gave up. -/
def RdF (w : World) (r : Hd13 × List Int × Int) (e : Ending) (w' : World) : Prop :=
  Keeps [] w w' ∧ ((r.2.2 = 0 ∧ ∃ a c, e = .returned (frV r.1 (.slice a r.2.1.length c)) ∧ RowAt w' (.slice a r.2.1.length c) r.2.1 ∧ ∀ ad, a = some ad → w.heap.size ≤ ad.block) ∨ (r.2.2 ≠ 0 ∧ e = gaveUp r.2.2))
theorem frag_one (h : Hd13) (a : Option Addr) (n c : Nat) : (#[Value.int .i64 h.s.c, .int .i64 h.s.l, .int .i64 h.s.n, .int .i64 h.i, .int .i64 h.n, .int .i64 h.z, .slice a n c] : Array Value).all (·.oneCell') = true := by simp [Value.oneCell']

end Go.Proofs.YtcfmonlgpccndaaDoor
