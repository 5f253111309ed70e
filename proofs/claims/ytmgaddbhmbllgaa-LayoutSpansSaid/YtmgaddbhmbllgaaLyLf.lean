/- layout: arrays of numbers and stripes as arguments of a law. -/
import Derived.Test.YtmgaddbhmbllgaaLyO
import Derived.Test.YtmgaddbhmbllgaaOpenC
import Derived.ChangeSame
import Derived.Deep.Strs
namespace Go.Proofs.Ytmgaddbhmbllgaa
open Go.Deep Go.ChangeShapes Go.WideShapes Go.ChangeAt Go.RowKit
set_option maxRecDepth 100000

section
variable {H : Type} {enc : TypeId × Value → H}
theorem cells13_u16 : Try.prog.cellsOf 65 = 1 := by kernel_rfl
theorem cells13_u8 : Try.prog.cellsOf 5 = 1 := by kernel_rfl
theorem cells13_int : Try.prog.cellsOf 3 = 1 := by kernel_rfl
theorem cells13_stripe : Try.prog.cellsOf 30 = 3 := by kernel_rfl
theorem cells13_pair : Try.prog.cellsOf 66 = 2 := by kernel_rfl
theorem cells13_two : Try.prog.cellsOf 61 = 2 := by kernel_rfl
theorem cells13_twoi : Try.prog.cellsOf 52 = 2 := by kernel_rfl
theorem cells13_four : Try.prog.cellsOf 39 = 4 := by kernel_rfl
theorem pair13_of_trod {W : World} {base : Nat} {v : Value} {d : DataW H} {p : List MemPlace} (hv : Value.okWide Try.prog W .any base 66 v) (h : DataW.Trod enc Try.prog W 0 (fun _ => true) true 66 v d p) :
    ∃ z0 z1, v = .agg #[.int .u16 z0, .int .u16 z1] ∧ d = .agg [.lit (.int .u16 z0), .lit (.int .u16 z1)] ∧ p = [] ∧ (Lit.int .u16 z0).wf = true ∧ (Lit.int .u16 z1).wf = true := by
  obtain ⟨cs, rfl, hsz, _⟩ : ∃ cs, v = .agg cs ∧ cs.size = Try.prog.cellsOf 66 ∧ Row.okWide Try.prog W .any base 66 cs := by
    simpa [Value.okWide, Try.underlying66] using hv
  rw [cells13_pair] at hsz
  obtain ⟨l⟩ := cs
  obtain ⟨c0, c1, rfl⟩ : ∃ a0 a1, l = [a0, a1] := by
    match l, hsz with
    | [a0, a1], _ => exact ⟨a0, a1, rfl⟩
  obtain ⟨fuel, hf⟩ := h
  obtain ⟨xs, m, rfl, e, _, hl, hi⟩ := DataW.trod_array Try.underlying66 hf
  obtain ⟨x0, x1, rfl⟩ : ∃ a0 a1, xs = [a0, a1] := by
    match xs, hl with
    | [a0, a1], _ => exact ⟨a0, a1, rfl⟩
  have h0 := hi 0 (by decide)
  have h1 := hi 1 (by decide)
  rw [cells13_u16] at h0 h1
  simp [Value.cells] at h0 h1
  obtain ⟨z0, e0, rfl, w0⟩ := DataW.trod_int Try.underlying65 h0
  obtain ⟨z1, e1, rfl, w1⟩ := DataW.trod_int Try.underlying65 h1
  simp at e0 e1 e
  subst e0 e1
  exact ⟨z0, z1, rfl, e.1, e.2, w0, w1⟩
theorem pair13_shut {W : World} {sp : Nat → Bool} {held : Bool} {z0 z1 : Int} (h : (Lit.int .u16 z0).wf = true ∧ (Lit.int .u16 z1).wf = true) :
    DataW.Trod enc Try.prog W 0 sp held 66 (.agg #[.int .u16 z0, .int .u16 z1]) (.agg [.lit (.int .u16 z0), .lit (.int .u16 z1)]) [] :=
  ⟨2, by simp [DataW.trod, Value.cells, Try.underlying66, Try.underlying65, cells13_pair, cells13_u16, h.1, h.2, show List.range 2 = [0, 1] from rfl]⟩
theorem two13_of_trod {W : World} {base : Nat} {v : Value} {d : DataW H} {p : List MemPlace} (hv : Value.okWide Try.prog W .any base 61 v) (h : DataW.Trod enc Try.prog W 0 (fun _ => true) true 61 v d p) :
    ∃ z0 z1, v = .agg #[.int .u8 z0, .int .u8 z1] ∧ d = .agg [.lit (.int .u8 z0), .lit (.int .u8 z1)] ∧ p = [] ∧ (Lit.int .u8 z0).wf = true ∧ (Lit.int .u8 z1).wf = true := by
  obtain ⟨cs, rfl, hsz, _⟩ : ∃ cs, v = .agg cs ∧ cs.size = Try.prog.cellsOf 61 ∧ Row.okWide Try.prog W .any base 61 cs := by
    simpa [Value.okWide, Try.underlying61] using hv
  rw [cells13_two] at hsz
  obtain ⟨l⟩ := cs
  obtain ⟨c0, c1, rfl⟩ : ∃ a0 a1, l = [a0, a1] := by
    match l, hsz with
    | [a0, a1], _ => exact ⟨a0, a1, rfl⟩
  obtain ⟨fuel, hf⟩ := h
  obtain ⟨xs, m, rfl, e, _, hl, hi⟩ := DataW.trod_array Try.underlying61 hf
  obtain ⟨x0, x1, rfl⟩ : ∃ a0 a1, xs = [a0, a1] := by
    match xs, hl with
    | [a0, a1], _ => exact ⟨a0, a1, rfl⟩
  have h0 := hi 0 (by decide)
  have h1 := hi 1 (by decide)
  rw [cells13_u8] at h0 h1
  simp [Value.cells] at h0 h1
  obtain ⟨z0, e0, rfl, w0⟩ := DataW.trod_int Try.underlying5 h0
  obtain ⟨z1, e1, rfl, w1⟩ := DataW.trod_int Try.underlying5 h1
  simp at e0 e1 e
  subst e0 e1
  exact ⟨z0, z1, rfl, e.1, e.2, w0, w1⟩
theorem two13_shut {W : World} {sp : Nat → Bool} {held : Bool} {z0 z1 : Int} (h : (Lit.int .u8 z0).wf = true ∧ (Lit.int .u8 z1).wf = true) :
    DataW.Trod enc Try.prog W 0 sp held 61 (.agg #[.int .u8 z0, .int .u8 z1]) (.agg [.lit (.int .u8 z0), .lit (.int .u8 z1)]) [] :=
  ⟨2, by simp [DataW.trod, Value.cells, Try.underlying61, Try.underlying5, cells13_two, cells13_u8, h.1, h.2, show List.range 2 = [0, 1] from rfl]⟩
theorem twoi13_of_trod {W : World} {base : Nat} {v : Value} {d : DataW H} {p : List MemPlace} (hv : Value.okWide Try.prog W .any base 52 v) (h : DataW.Trod enc Try.prog W 0 (fun _ => true) true 52 v d p) :
    ∃ z0 z1, v = .agg #[.int .i64 z0, .int .i64 z1] ∧ d = .agg [.lit (.int .i64 z0), .lit (.int .i64 z1)] ∧ p = [] ∧ (Lit.int .i64 z0).wf = true ∧ (Lit.int .i64 z1).wf = true := by
  obtain ⟨cs, rfl, hsz, _⟩ : ∃ cs, v = .agg cs ∧ cs.size = Try.prog.cellsOf 52 ∧ Row.okWide Try.prog W .any base 52 cs := by
    simpa [Value.okWide, Try.underlying52] using hv
  rw [cells13_twoi] at hsz
  obtain ⟨l⟩ := cs
  obtain ⟨c0, c1, rfl⟩ : ∃ a0 a1, l = [a0, a1] := by
    match l, hsz with
    | [a0, a1], _ => exact ⟨a0, a1, rfl⟩
  obtain ⟨fuel, hf⟩ := h
  obtain ⟨xs, m, rfl, e, _, hl, hi⟩ := DataW.trod_array Try.underlying52 hf
  obtain ⟨x0, x1, rfl⟩ : ∃ a0 a1, xs = [a0, a1] := by
    match xs, hl with
    | [a0, a1], _ => exact ⟨a0, a1, rfl⟩
  have h0 := hi 0 (by decide)
  have h1 := hi 1 (by decide)
  rw [cells13_int] at h0 h1
  simp [Value.cells] at h0 h1
  obtain ⟨z0, e0, rfl, w0⟩ := DataW.trod_int Try.underlying3 h0
  obtain ⟨z1, e1, rfl, w1⟩ := DataW.trod_int Try.underlying3 h1
  simp at e0 e1 e
  subst e0 e1
  exact ⟨z0, z1, rfl, e.1, e.2, w0, w1⟩
theorem twoi13_shut {W : World} {sp : Nat → Bool} {held : Bool} {z0 z1 : Int} (h : (Lit.int .i64 z0).wf = true ∧ (Lit.int .i64 z1).wf = true) :
    DataW.Trod enc Try.prog W 0 sp held 52 (.agg #[.int .i64 z0, .int .i64 z1]) (.agg [.lit (.int .i64 z0), .lit (.int .i64 z1)]) [] :=
  ⟨2, by simp [DataW.trod, Value.cells, Try.underlying52, Try.underlying3, cells13_twoi, cells13_int, h.1, h.2, show List.range 2 = [0, 1] from rfl]⟩
theorem four13_of_trod {W : World} {base : Nat} {v : Value} {d : DataW H} {p : List MemPlace} (hv : Value.okWide Try.prog W .any base 39 v) (h : DataW.Trod enc Try.prog W 0 (fun _ => true) true 39 v d p) :
    ∃ z0 z1 z2 z3, v = .agg #[.int .i64 z0, .int .i64 z1, .int .i64 z2, .int .i64 z3] ∧ d = .agg [.lit (.int .i64 z0), .lit (.int .i64 z1), .lit (.int .i64 z2), .lit (.int .i64 z3)] ∧ p = [] ∧ (Lit.int .i64 z0).wf = true ∧ (Lit.int .i64 z1).wf = true ∧ (Lit.int .i64 z2).wf = true ∧ (Lit.int .i64 z3).wf = true := by
  obtain ⟨cs, rfl, hsz, _⟩ : ∃ cs, v = .agg cs ∧ cs.size = Try.prog.cellsOf 39 ∧ Row.okWide Try.prog W .any base 39 cs := by
    simpa [Value.okWide, Try.underlying39] using hv
  rw [cells13_four] at hsz
  obtain ⟨l⟩ := cs
  obtain ⟨c0, c1, c2, c3, rfl⟩ : ∃ a0 a1 a2 a3, l = [a0, a1, a2, a3] := by
    match l, hsz with
    | [a0, a1, a2, a3], _ => exact ⟨a0, a1, a2, a3, rfl⟩
  obtain ⟨fuel, hf⟩ := h
  obtain ⟨xs, m, rfl, e, _, hl, hi⟩ := DataW.trod_array Try.underlying39 hf
  obtain ⟨x0, x1, x2, x3, rfl⟩ : ∃ a0 a1 a2 a3, xs = [a0, a1, a2, a3] := by
    match xs, hl with
    | [a0, a1, a2, a3], _ => exact ⟨a0, a1, a2, a3, rfl⟩
  have h0 := hi 0 (by decide)
  have h1 := hi 1 (by decide)
  have h2 := hi 2 (by decide)
  have h3 := hi 3 (by decide)
  rw [cells13_int] at h0 h1 h2 h3
  simp [Value.cells] at h0 h1 h2 h3
  obtain ⟨z0, e0, rfl, w0⟩ := DataW.trod_int Try.underlying3 h0
  obtain ⟨z1, e1, rfl, w1⟩ := DataW.trod_int Try.underlying3 h1
  obtain ⟨z2, e2, rfl, w2⟩ := DataW.trod_int Try.underlying3 h2
  obtain ⟨z3, e3, rfl, w3⟩ := DataW.trod_int Try.underlying3 h3
  simp at e0 e1 e2 e3 e
  subst e0 e1 e2 e3
  exact ⟨z0, z1, z2, z3, rfl, e.1, e.2, w0, w1, w2, w3⟩
theorem four13_shut {W : World} {sp : Nat → Bool} {held : Bool} {z0 z1 z2 z3 : Int} (h : (Lit.int .i64 z0).wf = true ∧ (Lit.int .i64 z1).wf = true ∧ (Lit.int .i64 z2).wf = true ∧ (Lit.int .i64 z3).wf = true) :
    DataW.Trod enc Try.prog W 0 sp held 39 (.agg #[.int .i64 z0, .int .i64 z1, .int .i64 z2, .int .i64 z3]) (.agg [.lit (.int .i64 z0), .lit (.int .i64 z1), .lit (.int .i64 z2), .lit (.int .i64 z3)]) [] :=
  ⟨2, by simp [DataW.trod, Value.cells, Try.underlying39, Try.underlying3, cells13_four, cells13_int, h.1, h.2.1, h.2.2.1, h.2.2.2, show List.range 4 = [0, 1, 2, 3] from rfl]⟩
theorem spe13_of_trod {W : World} {base : Nat} {v : Value} {d : DataW H} {p : List MemPlace} (hv : Value.okWide Try.prog W .any base 30 v) (h : DataW.Trod enc Try.prog W 0 (fun _ => true) true 30 v d p) :
    ∃ x : Spe, v = speV x ∧ d = .agg [.lit (.int .i64 x.c), .lit (.int .i64 x.l), .lit (.int .i64 x.n)] ∧ p = [] ∧
      ((Lit.int .i64 x.c).wf = true ∧ (Lit.int .i64 x.l).wf = true ∧ (Lit.int .i64 x.n).wf = true) := by
  obtain ⟨cs, rfl, hsz, _⟩ : ∃ cs, v = .agg cs ∧ cs.size = Try.prog.cellsOf 30 ∧ Row.okWide Try.prog W .any base 30 cs := by
    simpa [Value.okWide, Try.underlying30] using hv
  rw [cells13_stripe] at hsz
  obtain ⟨l⟩ := cs
  obtain ⟨c0, c1, c2, rfl⟩ : ∃ a b c, l = [a, b, c] := by
    match l, hsz with
    | [a, b, c], _ => exact ⟨a, b, c, rfl⟩
  obtain ⟨fuel, hf⟩ := h
  obtain ⟨y0, y1, y2, m2, e, _, g0, g1, g2⟩ := trod_struct3 Try.underlying30 hf
  simp only [cells13_int, Value.cells, List.drop_zero, List.drop_succ_cons, List.take_succ_cons, List.take_zero, List.take_nil] at g0 g1 g2
  obtain ⟨z, e0, rfl, w0⟩ := DataW.trod_int Try.underlying3 g0
  obtain ⟨y, e1, rfl, w1⟩ := DataW.trod_int Try.underlying3 g1
  obtain ⟨x, e2, rfl, w2⟩ := DataW.trod_int Try.underlying3 g2
  simp at e0 e1 e2 e
  subst e0 e1 e2
  exact ⟨⟨z, y, x⟩, rfl, e.1, e.2, w0, w1, w2⟩
theorem spe13_shut {W : World} {sp : Nat → Bool} {held : Bool} {x : Spe} (h : (Lit.int .i64 x.c).wf = true ∧ (Lit.int .i64 x.l).wf = true ∧ (Lit.int .i64 x.n).wf = true) :
    DataW.Trod enc Try.prog W 0 sp held 30 (speV x) (.agg [.lit (.int .i64 x.c), .lit (.int .i64 x.l), .lit (.int .i64 x.n)]) [] :=
  ⟨2, by simp [DataW.trod, Value.cells, speV, Try.underlying30, Try.underlying3, cells13_stripe, cells13_int, h.1, h.2.1, h.2.2]⟩
end
end Go.Proofs.Ytmgaddbhmbllgaa
