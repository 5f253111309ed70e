/- blocks: two pointers by value as an argument. -/
import Derived.Test.YtdfhoanilbfkiaaBkO
import Derived.ChangeSame
namespace Go.Proofs.Ytdfhoanilbfkiaa
open Go.Deep Go.ChangeShapes Go.WideShapes Go.ChangeAt Go.RowKit Go.Shelf
set_option maxRecDepth 100000
set_option linter.unusedSimpArgs false

def twoV (a b : Pt) : Value := .agg (a.cells ++ b.cells).toArray
section
variable {H : Type} {enc : TypeId × Value → H}
structure PtWf (x : Pt) : Prop where
  c : (Lit.int .i64 x.c).wf = true
  l : (Lit.int .i64 x.l).wf = true
  n : (Lit.int .i64 x.n).wf = true
  a : (Lit.int .i64 x.a).wf = true
  k : (Lit.int .i64 x.k).wf = true
def ptD (H : Type) (x : Pt) : DataW H := .agg [.agg [.lit (.int .i64 x.c), .lit (.int .i64 x.l), .lit (.int .i64 x.n)], .lit (.int .i64 x.a), .lit (.int .i64 x.k)]
theorem ptD_of_trod {W : World} {fuel : Nat} {c0 c1 c2 c3 c4 : Value} {x : DataW H × List MemPlace} (h : DataW.trod enc Try.prog W 0 (fun _ => true) true fuel 28 [c0, c1, c2, c3, c4] = some x) : ∃ p : Pt, [c0, c1, c2, c3, c4] = p.cells ∧ x = (ptD H p, []) ∧ PtWf p := by
  obtain ⟨ye, y3, y4, m, rfl, _, h0, h1, h2⟩ := trod_struct3 Try.underlying28 h
  simp only [cellsSt, cellsI11, List.drop_zero, List.drop_succ_cons, List.take_succ_cons, List.take_zero, List.take_nil] at h0 h1 h2
  obtain ⟨y0, y1, y2, m2, rfl, _, g0, g1, g2⟩ := trod_struct3 Try.underlying26 h0
  simp only [cellsI11, List.drop_zero, List.drop_succ_cons, List.take_succ_cons, List.take_zero, List.take_nil] at g0 g1 g2
  obtain ⟨z0, e0, rfl, w0⟩ := DataW.trod_int Try.underlying3 g0
  obtain ⟨z1, e1, rfl, w1⟩ := DataW.trod_int Try.underlying3 g1
  obtain ⟨z2, e2, rfl, w2⟩ := DataW.trod_int Try.underlying3 g2
  obtain ⟨z3, e3, rfl, w3⟩ := DataW.trod_int Try.underlying3 h1
  obtain ⟨z4, e4, rfl, w4⟩ := DataW.trod_int Try.underlying3 h2
  simp at e0 e1 e2 e3 e4
  subst e0 e1 e2 e3 e4
  exact ⟨⟨z0, z1, z2, z3, z4⟩, rfl, rfl, w0, w1, w2, w3, w4⟩
theorem cellsTwoP : Try.prog.cellsOf 57 = 10 := by kernel_rfl
theorem twop_of_trod {W : World} {base : Nat} {v : Value} {d : DataW H} {p : List MemPlace} (hv : Value.okWide Try.prog W .any base 57 v) (h : DataW.Trod enc Try.prog W 0 (fun _ => true) true 57 v d p) :
    ∃ z y, v = twoV z y ∧ d = .agg [ptD H z, ptD H y] ∧ p = [] ∧ PtWf z ∧ PtWf y := by
  obtain ⟨cs, rfl, hsz, _⟩ : ∃ cs, v = .agg cs ∧ cs.size = Try.prog.cellsOf 57 ∧ Row.okWide Try.prog W .any base 57 cs := by
    simpa [Value.okWide, Try.underlying57] using hv
  rw [cellsTwoP] at hsz
  obtain ⟨l⟩ := cs
  obtain ⟨c0, c1, c2, c3, c4, c5, c6, c7, c8, c9, rfl⟩ : ∃ c0 c1 c2 c3 c4 c5 c6 c7 c8 c9, l = [c0, c1, c2, c3, c4, c5, c6, c7, c8, c9] := by
    match l, hsz with
    | [c0, c1, c2, c3, c4, c5, c6, c7, c8, c9], _ => exact ⟨c0, c1, c2, c3, c4, c5, c6, c7, c8, c9, rfl⟩
  obtain ⟨fuel, hf⟩ := h
  obtain ⟨xs, m, rfl, e, _, hl, hi⟩ := DataW.trod_array Try.underlying57 hf
  obtain ⟨x0, x1, rfl⟩ : ∃ a b, xs = [a, b] := by
    match xs, hl with
    | [a, b], _ => exact ⟨a, b, rfl⟩
  have h0 := hi 0 (by decide)
  have h1 := hi 1 (by decide)
  rw [cellsPt] at h0 h1
  simp [Value.cells] at h0 h1
  obtain ⟨z, e0, rfl, w0⟩ := ptD_of_trod h0
  obtain ⟨y, e1, rfl, w1⟩ := ptD_of_trod h1
  simp at e
  refine ⟨z, y, ?_, e.1, e.2, w0, w1⟩
  unfold twoV
  rw [← e0, ← e1]
  rfl
theorem twop_shut {W : World} {sp : Nat → Bool} {held : Bool} {z y : Pt} (h : PtWf z ∧ PtWf y) :
    DataW.Trod enc Try.prog W 0 sp held 57 (twoV z y) (.agg [ptD H z, ptD H y]) [] :=
  ⟨4, by simp [DataW.trod, Value.cells, twoV, Pt.cells, ptD, Try.underlying57, Try.underlying28, Try.underlying26, Try.underlying3, cellsTwoP, cellsPt, cellsSt, cellsI11, h.1.c, h.1.l, h.1.n, h.1.a, h.1.k, h.2.c, h.2.l, h.2.n, h.2.a, h.2.k, show List.range 2 = [0, 1] from rfl]⟩
end
end Go.Proofs.Ytdfhoanilbfkiaa
