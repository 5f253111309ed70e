/- blocks: two pointers by value as an argument. -/
import Derived.Test.YtamcllcjondcpaaBkO
import Derived.ChangeSame
namespace Go.Proofs.Ytamcllcjondcpaa
open Go.Deep Go.ChangeShapes Go.WideShapes Go.ChangeAt Go.RowKit Go.Shelf
set_option maxRecDepth 100000
set_option linter.unusedSimpArgs false

def twoV (a b : Pt) : Value := .agg (a.cells ++ b.cells).toArray
section
variable {H : Type} {enc : TypeId × Value → H}
structure PtWf (x : Pt) : Prop where
  c : (Lit.int .i64 x.c).wf = true
  l : (Lit.int .i64 x.l).wf = true
  n : (Lit.int .i64 x.n).wf = true
  a : (Lit.int .i64 x.a).wf = true
  k : (Lit.int .i64 x.k).wf = true
def ptD (H : Type) (x : Pt) : DataW H := .agg [.agg [.lit (.int .i64 x.c), .lit (.int .i64 x.l), .lit (.int .i64 x.n)], .lit (.int .i64 x.a), .lit (.int .i64 x.k)]
theorem ptD_of_trod {W : World} {fuel : Nat} {c0 c1 c2 c3 c4 : Value} {x : DataW H × List MemPlace} (h : DataW.trod enc Try.prog W 0 (fun _ => true) true fuel 47 [c0, c1, c2, c3, c4] = some x) : ∃ p : Pt, [c0, c1, c2, c3, c4] = p.cells ∧ x = (ptD H p, []) ∧ PtWf p := by
  obtain ⟨ye, y3, y4, m, rfl, _, h0, h1, h2⟩ := trod_struct3 Try.underlying47 h
  simp only [cellsSt, cellsI11, List.drop_zero, List.drop_succ_cons, List.take_succ_cons, List.take_zero, List.take_nil] at h0 h1 h2
  obtain ⟨y0, y1, y2, m2, rfl, _, g0, g1, g2⟩ := trod_struct3 Try.underlying45 h0
  simp only [cellsI11, List.drop_zero, List.drop_succ_cons, List.take_succ_cons, List.take_zero, List.take_nil] at g0 g1 g2
  obtain ⟨z0, e0, rfl, w0⟩ := DataW.trod_int Try.underlying3 g0
  obtain ⟨z1, e1, rfl, w1⟩ := DataW.trod_int Try.underlying3 g1
  obtain ⟨z2, e2, rfl, w2⟩ := DataW.trod_int Try.underlying3 g2
  obtain ⟨z3, e3, rfl, w3⟩ := DataW.trod_int Try.underlying3 h1
  obtain ⟨z4, e4, rfl, w4⟩ := DataW.trod_int Try.underlying3 h2
  simp at e0 e1 e2 e3 e4
  subst e0 e1 e2 e3 e4
  exact ⟨⟨z0, z1, z2, z3, z4⟩, rfl, rfl, w0, w1, w2, w3, w4⟩
end
end Go.Proofs.Ytamcllcjondcpaa
