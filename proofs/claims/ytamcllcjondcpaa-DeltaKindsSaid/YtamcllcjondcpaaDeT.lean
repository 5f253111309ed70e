/- delta: a delta by value as a law's argument. -/
import Derived.Test.YtamcllcjondcpaaBkT
namespace Go.Proofs.Ytamcllcjondcpaa
open Go.Deep Go.ChangeShapes Go.WideShapes Go.ChangeAt Go.RowKit Go.Shelf
set_option maxRecDepth 100000
set_option linter.unusedSimpArgs false

section
variable {H : Type} {enc : TypeId × Value → H}
structure DlWf (x : Dl) : Prop where
  d : (Lit.int .i64 x.d).wf = true
  i : (Lit.int .i64 x.i).wf = true
  b : (Lit.int .i64 x.b).wf = true
  s : (Lit.int .i64 x.s).wf = true
  t : PtWf x.t
  o : PtWf x.o
def dlD (H : Type) (x : Dl) : DataW H := .agg [.lit (.int .i64 x.d), .lit (.int .i64 x.i), .lit (.int .i64 x.b), .lit (.int .i64 x.s), ptD H x.t, ptD H x.o]
theorem dl_arg {W : World} {base : Nat} {v : Value} {d : DataW H} {p : List MemPlace} (hv : Value.okWide Try.prog W .any base 49 v) (h : DataW.Trod enc Try.prog W 0 (fun _ => true) true 49 v d p) :
    ∃ x, v = dlV x ∧ d = dlD H x ∧ p = [] ∧ DlWf x := by
  obtain ⟨cs, rfl, hsz, _⟩ : ∃ cs, v = .agg cs ∧ cs.size = Try.prog.cellsOf 49 ∧ Row.okWide Try.prog W .any base 49 cs := by
    simpa [Value.okWide, Try.underlying49] using hv
  rw [cellsDl] at hsz
  obtain ⟨l⟩ := cs
  obtain ⟨c0, c1, c2, c3, c4, c5, c6, c7, c8, c9, c10, c11, c12, c13, rfl⟩ : ∃ c0 c1 c2 c3 c4 c5 c6 c7 c8 c9 c10 c11 c12 c13, l = [c0, c1, c2, c3, c4, c5, c6, c7, c8, c9, c10, c11, c12, c13] := by
    match l, hsz with
    | [c0, c1, c2, c3, c4, c5, c6, c7, c8, c9, c10, c11, c12, c13], _ => exact ⟨c0, c1, c2, c3, c4, c5, c6, c7, c8, c9, c10, c11, c12, c13, rfl⟩
  obtain ⟨fuel, hf⟩ := h
  obtain ⟨ys, n, _, hx, _, hyl, hg⟩ := DataW.trod_struct Try.underlying49 hf
  have t0 : DataW.trod enc Try.prog W 0 (fun _ => true) true n 3 (([c0, c1, c2, c3, c4, c5, c6, c7, c8, c9, c10, c11, c12, c13].drop 0).take (Try.prog.cellsOf 3)) = ys[0]? := hg 0 _ rfl
  have t1 : DataW.trod enc Try.prog W 0 (fun _ => true) true n 3 (([c0, c1, c2, c3, c4, c5, c6, c7, c8, c9, c10, c11, c12, c13].drop 1).take (Try.prog.cellsOf 3)) = ys[1]? := hg 1 _ rfl
  have t2 : DataW.trod enc Try.prog W 0 (fun _ => true) true n 3 (([c0, c1, c2, c3, c4, c5, c6, c7, c8, c9, c10, c11, c12, c13].drop 2).take (Try.prog.cellsOf 3)) = ys[2]? := hg 2 _ rfl
  have t3 : DataW.trod enc Try.prog W 0 (fun _ => true) true n 3 (([c0, c1, c2, c3, c4, c5, c6, c7, c8, c9, c10, c11, c12, c13].drop 3).take (Try.prog.cellsOf 3)) = ys[3]? := hg 3 _ rfl
  have t4 : DataW.trod enc Try.prog W 0 (fun _ => true) true n 47 (([c0, c1, c2, c3, c4, c5, c6, c7, c8, c9, c10, c11, c12, c13].drop 4).take (Try.prog.cellsOf 47)) = ys[4]? := hg 4 _ rfl
  have t5 : DataW.trod enc Try.prog W 0 (fun _ => true) true n 47 (([c0, c1, c2, c3, c4, c5, c6, c7, c8, c9, c10, c11, c12, c13].drop 9).take (Try.prog.cellsOf 47)) = ys[5]? := hg 5 _ rfl
  simp only [cellsPt, cellsI11, List.drop_zero, List.drop_succ_cons, List.take_succ_cons, List.take_zero] at t0 t1 t2 t3 t4 t5
  match ys, hyl with
  | [y0, y1, y2, y3, y4, y5], _ =>
    simp only [List.getElem?_cons_zero, List.getElem?_cons_succ] at t0 t1 t2 t3 t4 t5
    obtain ⟨z0, e0, rfl, w0⟩ := DataW.trod_int Try.underlying3 t0
    obtain ⟨z1, e1, rfl, w1⟩ := DataW.trod_int Try.underlying3 t1
    obtain ⟨z2, e2, rfl, w2⟩ := DataW.trod_int Try.underlying3 t2
    obtain ⟨z3, e3, rfl, w3⟩ := DataW.trod_int Try.underlying3 t3
    obtain ⟨p4, e4, rfl, w4⟩ := ptD_of_trod t4
    obtain ⟨p5, e5, rfl, w5⟩ := ptD_of_trod t5
    simp at e0 e1 e2 e3
    subst e0 e1 e2 e3
    simp at hx
    refine ⟨⟨z0, z1, z2, z3, p4, p5⟩, ?_, hx.1, hx.2, w0, w1, w2, w3, w4, w5⟩
    unfold dlV Dl.cells
    simp only
    rw [← e4, ← e5]
    rfl
theorem dl_shut {W : World} {sp : Nat → Bool} {held : Bool} {x : Dl} (h : DlWf x) :
    DataW.Trod enc Try.prog W 0 sp held 49 (dlV x) (dlD H x) [] :=
  ⟨4, by simp [DataW.trod, Value.cells, dlV, dlD, Dl.cells, Pt.cells, ptD, Try.underlying49, Try.underlying47, Try.underlying45, Try.underlying3, cellsDl, cellsPt, cellsSt, cellsI11, h.d, h.i, h.b, h.s, h.t.c, h.t.l, h.t.n, h.t.a, h.t.k, h.o.c, h.o.l, h.o.n, h.o.a, h.o.k]⟩
end
end Go.Proofs.Ytamcllcjondcpaa
