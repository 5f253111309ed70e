/- LyO, LyLf, LyBm, LyCp. -/
import Derived.Test.YtoglcohdanpciaaLyJ6
import Derived.Test.YtoglcohdanpciaaOpenC
import Derived.ChangeSame
import Derived.Deep.Strs
/- layout, plainly: what fragments say; the bytes of a span. -/
namespace Go.Proofs.Ytoglcohdanpciaa
open Go.RowKit Go.Shelf
set_option maxRecDepth 100000
set_option linter.unusedSimpArgs false
set_option linter.unusedVariables false

theorem frag_get {s : Spe} {d : List Int} {n i : Nat} (hi : i < n) : (fragsL s d n).getD i [] = headB13 ⟨s, i, n, d.length⟩ ++ (rowsL d n).getD i [] := by
  unfold fragsL
  rw [List.getD_eq_getElem?_getD, List.getElem?_map, List.getElem?_range hi]
  rfl
theorem rows_get_lt {d : List Int} {n i : Nat} (hi : i < n - 1) : (rowsL d n).getD i [] = partL d i n := by
  unfold rowsL
  rw [List.getD_eq_getElem?_getD, List.getElem?_append_left (by rw [dataL_len]; exact hi), List.getElem?_eq_getElem (by rw [dataL_len]; exact hi), dataL_get]
  rfl
theorem rows_len_at {d : List Int} {n i : Nat} (h3 : 3 ≤ n) (hi : i < n) : ((rowsL d n).getD i []).length = longN i d.length n := by
  have hl : i < (rowsL d n).length := by rw [rowsL_len h3]; exact hi
  rw [List.getD_eq_getElem?_getD, List.getElem?_eq_getElem hl, Option.getD_some, rowsL_at h3]
theorem small_of {d : List Int} {n i : Nat} (h3 : 3 ≤ n) (h16 : n ≤ 16) (hi : i < n) (hl : d.length ≤ 400 * (n - 1)) : SmallF (i : Int) (d.length : Int) (n : Int) := ⟨by omega, by omega, by omega, by omega, by omega, by omega⟩
theorem frag_read {s : Spe} {d : List Int} {n i : Nat} (hs : mayE s = true) (h3 : 3 ≤ n) (h16 : n ≤ 16) (hi : i < n) (hl : d.length ≤ 400 * (n - 1)) :
    readL ((fragsL s d n).getD i []) = (⟨s, i, n, d.length⟩, (rowsL d n).getD i [], 0) := by
  rw [frag_get hi, readL_head (fitH_of hs (small_of h3 h16 hi hl)), if_pos]
  unfold fitsH mayH
  rw [Bool.and_eq_true, Bool.and_eq_true, Bool.and_eq_true, decide_eq_true_eq, rows_len_at h3 hi]
  simp only
  refine ⟨⟨⟨hs, mayHv_is.2 ⟨⟨by omega, by omega⟩, by omega, by omega⟩⟩, btw_is.2 ⟨by omega, by omega⟩⟩, ?_⟩
  rw [longI_is h3 h16]
  omega
theorem frag_len {s : Spe} {d : List Int} {n i : Nat} (h3 : 3 ≤ n) (hi : i < n) (hl : d.length ≤ 400 * (n - 1)) : ((fragsL s d n).getD i []).length ≤ 412 := by
  rw [frag_get hi, List.length_append, headB13_len, rows_len_at h3 hi]
  have := longN_le i d.length n
  have := eN_most hl
  omega
theorem frag_ne {s : Spe} {d : List Int} {n i : Nat} (hi : i < n) : (fragsL s d n).getD i [] ≠ [] := by
  intro h
  have := congrArg List.length h
  rw [frag_get hi, List.length_append, headB13_len] at this
  simp at this
theorem cut_ok {s : Spe} {d : List Int} {n : Nat} (hs : mayE s = true) (h3 : 3 ≤ n) (h16 : n ≤ 16) (hl : d.length ≤ 400 * (n - 1)) : cutL s d n = (fragsL s d n, 0) := by
  unfold cutL
  rw [if_pos ⟨maySv_is.2 ⟨by omega, by omega⟩, hs⟩, if_neg (by omega)]
  rfl

/-- The bytes of the fragments from the one to before the other. -/
def gotL (d : List Int) (n f i : Nat) : List Int := (d.take (fromN i d.length n)).drop (fromN f d.length n)
theorem fromN_succ (i z n : Nat) : fromN (i + 1) z n = fromN i z n + lenN i z n := by
  unfold fromN lenN
  rw [Nat.succ_mul]
  generalize i * eN z n = a
  omega
theorem fromN_mono {f i : Nat} (z n : Nat) (h : f ≤ i) : fromN f z n ≤ fromN i z n := by
  unfold fromN
  have := Nat.mul_le_mul_right (eN z n) h
  omega
theorem fromN_le (i z n : Nat) : fromN i z n ≤ z := Nat.min_le_right _ _
theorem got_self (d : List Int) (n f : Nat) : gotL d n f f = [] := by
  unfold gotL
  rw [List.drop_eq_nil_iff, List.length_take]
  omega
theorem got_step {d : List Int} {n f i : Nat} (h : f ≤ i) : gotL d n f i ++ partL d i n = gotL d n f (i + 1) := by
  unfold gotL partL
  rw [fromN_succ, List.take_add, List.drop_append_of_le_length]
  rw [List.length_take]
  have := fromN_mono d.length n h
  have := fromN_le i d.length n
  omega
theorem got_len (d : List Int) (n f i : Nat) : (gotL d n f i).length = fromN i d.length n - fromN f d.length n := by
  unfold gotL
  rw [List.length_drop, List.length_take]
  have := fromN_le i d.length n
  omega
theorem got_byte {d : List Int} (h : ∀ z ∈ d, 0 ≤ z ∧ z ≤ 255) (n f i : Nat) : ∀ z ∈ gotL d n f i, 0 ≤ z ∧ z ≤ 255 :=
  fun z hz => h z (List.mem_of_mem_take (List.mem_of_mem_drop hz))
/-- What holds of a span. -/
structure SpanOk (d : List Int) (n a c f l e : Nat) : Prop where
  each : eachI (d.length : Int) n = e
  span : spanL a c d.length n = ((f : Int), (l : Int), 0)
  fl : f ≤ l
  ln : l < n - 1
  fe : f * e ≤ a
  ae : a - f * e < e
  cl : a - f * e + c ≤ (gotL d n f (l + 1)).length
  same : ((gotL d n f (l + 1)).drop (a - f * e)).take c = (d.drop a).take c
  last : (a + c - 1) / e = l
theorem span_ok {d : List Int} {n a c : Nat} (h3 : 3 ≤ n) (h16 : n ≤ 16) (hl : d.length ≤ 400 * (n - 1)) (ha : a < d.length) (hc : 1 ≤ c) (hac : a + c ≤ d.length) :
    SpanOk d n a c (a / eN d.length n) ((a + c - 1) / eN d.length n) (eN d.length n) := by
  have he : 0 < eN d.length n := eN_pos (by omega)
  have hall := eN_all (z := d.length) h3
  have hE := eN_is (z := d.length) h3 h16
  have hfl : a / eN d.length n ≤ (a + c - 1) / eN d.length n := Nat.div_le_div_right (by omega)
  have d1 := Nat.div_add_mod a (eN d.length n)
  have m1 := Nat.mod_lt a he
  have d2 := Nat.div_add_mod (a + c - 1) (eN d.length n)
  have m2 := Nat.mod_lt (a + c - 1) he
  have hln : (a + c - 1) / eN d.length n < n - 1 := Nat.div_lt_of_lt_mul (by rw [Nat.mul_comm]; omega)
  have hsp : spanL a c d.length n = (((a / eN d.length n : Nat) : Int), (((a + c - 1) / eN d.length n : Nat) : Int), 0) := by
    unfold spanL
    rw [if_neg, hE]
    · have e1 : ((a : Int) + c - 1) = ((a + c - 1 : Nat) : Int) := by omega
      rw [e1, ← Int.natCast_ediv, ← Int.natCast_ediv]
    · rw [mayHv_is.2 ⟨⟨by omega, by omega⟩, by omega, by omega⟩]
      simp
      omega
  have hF : fromN (a / eN d.length n) d.length n = a / eN d.length n * eN d.length n := by
    unfold fromN
    rw [Nat.mul_comm] at d1
    omega
  have hL : a + c ≤ fromN ((a + c - 1) / eN d.length n + 1) d.length n := by
    unfold fromN
    rw [Nat.succ_mul]
    rw [Nat.mul_comm] at d2
    omega
  have hfe : a / eN d.length n * eN d.length n ≤ a := Nat.div_mul_le_self _ _
  have hae : a - a / eN d.length n * eN d.length n < eN d.length n := by
    rw [Nat.mul_comm] at d1
    omega
  have hlen := got_len d n (a / eN d.length n) ((a + c - 1) / eN d.length n + 1)
  rw [hF] at hlen
  refine ⟨hE, hsp, hfl, hln, hfe, hae, by rw [hlen]; omega, ?_, rfl⟩
  unfold gotL
  rw [hF, List.drop_drop, Nat.add_sub_cancel' hfe, List.drop_take, List.take_take, Nat.min_eq_left (by omega)]
end Go.Proofs.Ytoglcohdanpciaa


/- layout: arrays of numbers and stripes as arguments of a law. -/
namespace Go.Proofs.Ytoglcohdanpciaa
open Go.Deep Go.ChangeShapes Go.WideShapes Go.ChangeAt Go.RowKit
set_option maxRecDepth 100000

section
variable {H : Type} {enc : TypeId × Value → H}
theorem cells13_u16 : Try.prog.cellsOf 65 = 1 := by kernel_rfl
theorem cells13_u8 : Try.prog.cellsOf 5 = 1 := by kernel_rfl
theorem cells13_int : Try.prog.cellsOf 3 = 1 := by kernel_rfl
theorem cells13_stripe : Try.prog.cellsOf 30 = 3 := by kernel_rfl
theorem cells13_pair : Try.prog.cellsOf 66 = 2 := by kernel_rfl
theorem cells13_two : Try.prog.cellsOf 61 = 2 := by kernel_rfl
theorem cells13_twoi : Try.prog.cellsOf 52 = 2 := by kernel_rfl
theorem cells13_four : Try.prog.cellsOf 39 = 4 := by kernel_rfl
theorem pair13_of_trod {W : World} {base : Nat} {v : Value} {d : DataW H} {p : List MemPlace} (hv : Value.okWide Try.prog W .any base 66 v) (h : DataW.Trod enc Try.prog W 0 (fun _ => true) true 66 v d p) :
    ∃ z0 z1, v = .agg #[.int .u16 z0, .int .u16 z1] ∧ d = .agg [.lit (.int .u16 z0), .lit (.int .u16 z1)] ∧ p = [] ∧ (Lit.int .u16 z0).wf = true ∧ (Lit.int .u16 z1).wf = true := by
  obtain ⟨cs, rfl, hsz, _⟩ : ∃ cs, v = .agg cs ∧ cs.size = Try.prog.cellsOf 66 ∧ Row.okWide Try.prog W .any base 66 cs := by
    simpa [Value.okWide, Try.underlying66] using hv
  rw [cells13_pair] at hsz
  obtain ⟨l⟩ := cs
  obtain ⟨c0, c1, rfl⟩ : ∃ a0 a1, l = [a0, a1] := by
    match l, hsz with
    | [a0, a1], _ => exact ⟨a0, a1, rfl⟩
  obtain ⟨fuel, hf⟩ := h
  obtain ⟨xs, m, rfl, e, _, hl, hi⟩ := DataW.trod_array Try.underlying66 hf
  obtain ⟨x0, x1, rfl⟩ : ∃ a0 a1, xs = [a0, a1] := by
    match xs, hl with
    | [a0, a1], _ => exact ⟨a0, a1, rfl⟩
  have h0 := hi 0 (by decide)
  have h1 := hi 1 (by decide)
  rw [cells13_u16] at h0 h1
  simp [Value.cells] at h0 h1
  obtain ⟨z0, e0, rfl, w0⟩ := DataW.trod_int Try.underlying65 h0
  obtain ⟨z1, e1, rfl, w1⟩ := DataW.trod_int Try.underlying65 h1
  simp at e0 e1 e
  subst e0 e1
  exact ⟨z0, z1, rfl, e.1, e.2, w0, w1⟩
theorem pair13_shut {W : World} {sp : Nat → Bool} {held : Bool} {z0 z1 : Int} (h : (Lit.int .u16 z0).wf = true ∧ (Lit.int .u16 z1).wf = true) :
    DataW.Trod enc Try.prog W 0 sp held 66 (.agg #[.int .u16 z0, .int .u16 z1]) (.agg [.lit (.int .u16 z0), .lit (.int .u16 z1)]) [] :=
  ⟨2, by simp [DataW.trod, Value.cells, Try.underlying66, Try.underlying65, cells13_pair, cells13_u16, h.1, h.2, show List.range 2 = [0, 1] from rfl]⟩
theorem two13_of_trod {W : World} {base : Nat} {v : Value} {d : DataW H} {p : List MemPlace} (hv : Value.okWide Try.prog W .any base 61 v) (h : DataW.Trod enc Try.prog W 0 (fun _ => true) true 61 v d p) :
    ∃ z0 z1, v = .agg #[.int .u8 z0, .int .u8 z1] ∧ d = .agg [.lit (.int .u8 z0), .lit (.int .u8 z1)] ∧ p = [] ∧ (Lit.int .u8 z0).wf = true ∧ (Lit.int .u8 z1).wf = true := by
  obtain ⟨cs, rfl, hsz, _⟩ : ∃ cs, v = .agg cs ∧ cs.size = Try.prog.cellsOf 61 ∧ Row.okWide Try.prog W .any base 61 cs := by
    simpa [Value.okWide, Try.underlying61] using hv
  rw [cells13_two] at hsz
  obtain ⟨l⟩ := cs
  obtain ⟨c0, c1, rfl⟩ : ∃ a0 a1, l = [a0, a1] := by
    match l, hsz with
    | [a0, a1], _ => exact ⟨a0, a1, rfl⟩
  obtain ⟨fuel, hf⟩ := h
  obtain ⟨xs, m, rfl, e, _, hl, hi⟩ := DataW.trod_array Try.underlying61 hf
  obtain ⟨x0, x1, rfl⟩ : ∃ a0 a1, xs = [a0, a1] := by
    match xs, hl with
    | [a0, a1], _ => exact ⟨a0, a1, rfl⟩
  have h0 := hi 0 (by decide)
  have h1 := hi 1 (by decide)
  rw [cells13_u8] at h0 h1
  simp [Value.cells] at h0 h1
  obtain ⟨z0, e0, rfl, w0⟩ := DataW.trod_int Try.underlying5 h0
  obtain ⟨z1, e1, rfl, w1⟩ := DataW.trod_int Try.underlying5 h1
  simp at e0 e1 e
  subst e0 e1
  exact ⟨z0, z1, rfl, e.1, e.2, w0, w1⟩
theorem two13_shut {W : World} {sp : Nat → Bool} {held : Bool} {z0 z1 : Int} (h : (Lit.int .u8 z0).wf = true ∧ (Lit.int .u8 z1).wf = true) :
    DataW.Trod enc Try.prog W 0 sp held 61 (.agg #[.int .u8 z0, .int .u8 z1]) (.agg [.lit (.int .u8 z0), .lit (.int .u8 z1)]) [] :=
  ⟨2, by simp [DataW.trod, Value.cells, Try.underlying61, Try.underlying5, cells13_two, cells13_u8, h.1, h.2, show List.range 2 = [0, 1] from rfl]⟩
theorem twoi13_of_trod {W : World} {base : Nat} {v : Value} {d : DataW H} {p : List MemPlace} (hv : Value.okWide Try.prog W .any base 52 v) (h : DataW.Trod enc Try.prog W 0 (fun _ => true) true 52 v d p) :
    ∃ z0 z1, v = .agg #[.int .i64 z0, .int .i64 z1] ∧ d = .agg [.lit (.int .i64 z0), .lit (.int .i64 z1)] ∧ p = [] ∧ (Lit.int .i64 z0).wf = true ∧ (Lit.int .i64 z1).wf = true := by
  obtain ⟨cs, rfl, hsz, _⟩ : ∃ cs, v = .agg cs ∧ cs.size = Try.prog.cellsOf 52 ∧ Row.okWide Try.prog W .any base 52 cs := by
    simpa [Value.okWide, Try.underlying52] using hv
  rw [cells13_twoi] at hsz
  obtain ⟨l⟩ := cs
  obtain ⟨c0, c1, rfl⟩ : ∃ a0 a1, l = [a0, a1] := by
    match l, hsz with
    | [a0, a1], _ => exact ⟨a0, a1, rfl⟩
  obtain ⟨fuel, hf⟩ := h
  obtain ⟨xs, m, rfl, e, _, hl, hi⟩ := DataW.trod_array Try.underlying52 hf
  obtain ⟨x0, x1, rfl⟩ : ∃ a0 a1, xs = [a0, a1] := by
    match xs, hl with
    | [a0, a1], _ => exact ⟨a0, a1, rfl⟩
  have h0 := hi 0 (by decide)
  have h1 := hi 1 (by decide)
  rw [cells13_int] at h0 h1
  simp [Value.cells] at h0 h1
  obtain ⟨z0, e0, rfl, w0⟩ := DataW.trod_int Try.underlying3 h0
  obtain ⟨z1, e1, rfl, w1⟩ := DataW.trod_int Try.underlying3 h1
  simp at e0 e1 e
  subst e0 e1
  exact ⟨z0, z1, rfl, e.1, e.2, w0, w1⟩
theorem twoi13_shut {W : World} {sp : Nat → Bool} {held : Bool} {z0 z1 : Int} (h : (Lit.int .i64 z0).wf = true ∧ (Lit.int .i64 z1).wf = true) :
    DataW.Trod enc Try.prog W 0 sp held 52 (.agg #[.int .i64 z0, .int .i64 z1]) (.agg [.lit (.int .i64 z0), .lit (.int .i64 z1)]) [] :=
  ⟨2, by simp [DataW.trod, Value.cells, Try.underlying52, Try.underlying3, cells13_twoi, cells13_int, h.1, h.2, show List.range 2 = [0, 1] from rfl]⟩
theorem four13_of_trod {W : World} {base : Nat} {v : Value} {d : DataW H} {p : List MemPlace} (hv : Value.okWide Try.prog W .any base 39 v) (h : DataW.Trod enc Try.prog W 0 (fun _ => true) true 39 v d p) :
    ∃ z0 z1 z2 z3, v = .agg #[.int .i64 z0, .int .i64 z1, .int .i64 z2, .int .i64 z3] ∧ d = .agg [.lit (.int .i64 z0), .lit (.int .i64 z1), .lit (.int .i64 z2), .lit (.int .i64 z3)] ∧ p = [] ∧ (Lit.int .i64 z0).wf = true ∧ (Lit.int .i64 z1).wf = true ∧ (Lit.int .i64 z2).wf = true ∧ (Lit.int .i64 z3).wf = true := by
  obtain ⟨cs, rfl, hsz, _⟩ : ∃ cs, v = .agg cs ∧ cs.size = Try.prog.cellsOf 39 ∧ Row.okWide Try.prog W .any base 39 cs := by
    simpa [Value.okWide, Try.underlying39] using hv
  rw [cells13_four] at hsz
  obtain ⟨l⟩ := cs
  obtain ⟨c0, c1, c2, c3, rfl⟩ : ∃ a0 a1 a2 a3, l = [a0, a1, a2, a3] := by
    match l, hsz with
    | [a0, a1, a2, a3], _ => exact ⟨a0, a1, a2, a3, rfl⟩
  obtain ⟨fuel, hf⟩ := h
  obtain ⟨xs, m, rfl, e, _, hl, hi⟩ := DataW.trod_array Try.underlying39 hf
  obtain ⟨x0, x1, x2, x3, rfl⟩ : ∃ a0 a1 a2 a3, xs = [a0, a1, a2, a3] := by
    match xs, hl with
    | [a0, a1, a2, a3], _ => exact ⟨a0, a1, a2, a3, rfl⟩
  have h0 := hi 0 (by decide)
  have h1 := hi 1 (by decide)
  have h2 := hi 2 (by decide)
  have h3 := hi 3 (by decide)
  rw [cells13_int] at h0 h1 h2 h3
  simp [Value.cells] at h0 h1 h2 h3
  obtain ⟨z0, e0, rfl, w0⟩ := DataW.trod_int Try.underlying3 h0
  obtain ⟨z1, e1, rfl, w1⟩ := DataW.trod_int Try.underlying3 h1
  obtain ⟨z2, e2, rfl, w2⟩ := DataW.trod_int Try.underlying3 h2
  obtain ⟨z3, e3, rfl, w3⟩ := DataW.trod_int Try.underlying3 h3
  simp at e0 e1 e2 e3 e
  subst e0 e1 e2 e3
  exact ⟨z0, z1, z2, z3, rfl, e.1, e.2, w0, w1, w2, w3⟩
theorem four13_shut {W : World} {sp : Nat → Bool} {held : Bool} {z0 z1 z2 z3 : Int} (h : (Lit.int .i64 z0).wf = true ∧ (Lit.int .i64 z1).wf = true ∧ (Lit.int .i64 z2).wf = true ∧ (Lit.int .i64 z3).wf = true) :
    DataW.Trod enc Try.prog W 0 sp held 39 (.agg #[.int .i64 z0, .int .i64 z1, .int .i64 z2, .int .i64 z3]) (.agg [.lit (.int .i64 z0), .lit (.int .i64 z1), .lit (.int .i64 z2), .lit (.int .i64 z3)]) [] :=
  ⟨2, by simp [DataW.trod, Value.cells, Try.underlying39, Try.underlying3, cells13_four, cells13_int, h.1, h.2.1, h.2.2.1, h.2.2.2, show List.range 4 = [0, 1, 2, 3] from rfl]⟩
theorem spe13_of_trod {W : World} {base : Nat} {v : Value} {d : DataW H} {p : List MemPlace} (hv : Value.okWide Try.prog W .any base 30 v) (h : DataW.Trod enc Try.prog W 0 (fun _ => true) true 30 v d p) :
    ∃ x : Spe, v = speV x ∧ d = .agg [.lit (.int .i64 x.c), .lit (.int .i64 x.l), .lit (.int .i64 x.n)] ∧ p = [] ∧
      ((Lit.int .i64 x.c).wf = true ∧ (Lit.int .i64 x.l).wf = true ∧ (Lit.int .i64 x.n).wf = true) := by
  obtain ⟨cs, rfl, hsz, _⟩ : ∃ cs, v = .agg cs ∧ cs.size = Try.prog.cellsOf 30 ∧ Row.okWide Try.prog W .any base 30 cs := by
    simpa [Value.okWide, Try.underlying30] using hv
  rw [cells13_stripe] at hsz
  obtain ⟨l⟩ := cs
  obtain ⟨c0, c1, c2, rfl⟩ : ∃ a b c, l = [a, b, c] := by
    match l, hsz with
    | [a, b, c], _ => exact ⟨a, b, c, rfl⟩
  obtain ⟨fuel, hf⟩ := h
  obtain ⟨y0, y1, y2, m2, e, _, g0, g1, g2⟩ := trod_struct3 Try.underlying30 hf
  simp only [cells13_int, Value.cells, List.drop_zero, List.drop_succ_cons, List.take_succ_cons, List.take_zero, List.take_nil] at g0 g1 g2
  obtain ⟨z, e0, rfl, w0⟩ := DataW.trod_int Try.underlying3 g0
  obtain ⟨y, e1, rfl, w1⟩ := DataW.trod_int Try.underlying3 g1
  obtain ⟨x, e2, rfl, w2⟩ := DataW.trod_int Try.underlying3 g2
  simp at e0 e1 e2 e
  subst e0 e1 e2
  exact ⟨⟨z, y, x⟩, rfl, e.1, e.2, w0, w1, w2⟩
theorem spe13_shut {W : World} {sp : Nat → Bool} {held : Bool} {x : Spe} (h : (Lit.int .i64 x.c).wf = true ∧ (Lit.int .i64 x.l).wf = true ∧ (Lit.int .i64 x.n).wf = true) :
    DataW.Trod enc Try.prog W 0 sp held 30 (speV x) (.agg [.lit (.int .i64 x.c), .lit (.int .i64 x.l), .lit (.int .i64 x.n)]) [] :=
  ⟨2, by simp [DataW.trod, Value.cells, speV, Try.underlying30, Try.underlying3, cells13_stripe, cells13_int, h.1, h.2.1, h.2.2]⟩
end
end Go.Proofs.Ytoglcohdanpciaa


/- layout, plainly: what was cut is joined, with one missing; with two it is not; one in another one's place is told. -/
namespace Go.Proofs.Ytoglcohdanpciaa
open Go.RowKit Go.Shelf
set_option maxRecDepth 100000
set_option linter.unusedSimpArgs false
set_option linter.unusedVariables false
set_option linter.unusedSectionVars false

/-- Fragments of one stripe, some of them missing. -/
structure Part13 (s : Spe) (d : List Int) (n : Nat) (ls : List (List Int)) : Prop where
  len : ls.length = n
  at_ : ∀ k, k < n → ls.getD k [] = [] ∨ ls.getD k [] = (fragsL s d n).getD k []
theorem firstZ_mem : ∀ {ls : List (List Int)} {z : Int}, firstZ ls = some z → ∃ e ∈ ls, e ≠ [] ∧ z = (readL e).1.z
  | [], z, h => by cases h
  | a :: r, z, h => by
    rw [firstZ] at h
    by_cases ha : a = []
    · rw [if_pos ha] at h
      obtain ⟨e, he, h1, h2⟩ := firstZ_mem h
      exact ⟨e, List.mem_cons_of_mem _ he, h1, h2⟩
    · rw [if_neg ha] at h
      injection h with h
      exact ⟨a, List.mem_cons_self, ha, h.symm⟩
theorem mem_getD {ls : List (List Int)} {e : List Int} (h : e ∈ ls) : ∃ k, k < ls.length ∧ ls.getD k [] = e := by
  obtain ⟨k, hk, rfl⟩ := List.getElem_of_mem h
  exact ⟨k, hk, by rw [List.getD_eq_getElem?_getD, List.getElem?_eq_getElem hk]; rfl⟩
theorem getD_set13 {ls : List (List Int)} {i k : Nat} {x : List Int} (hi : i < ls.length) : (ls.set i x).getD k [] = if i = k then x else ls.getD k [] := by
  rw [List.getD_eq_getElem?_getD, List.getElem?_set, List.getD_eq_getElem?_getD]
  by_cases e : i = k
  · rw [if_pos e, if_pos e, if_pos (by omega)]; rfl
  · rw [if_neg e, if_neg e]
section
variable {s : Spe} {d : List Int} {n : Nat} (hs : mayE s = true) (h3 : 3 ≤ n) (h16 : n ≤ 16) (hl : d.length ≤ 400 * (n - 1))
include hs h3 h16 hl
theorem part_size {ls : List (List Int)} (h : Part13 s d n ls) {e : List Int} (he : e ∈ ls) (hne : e ≠ []) : (readL e).1.z = d.length := by
  obtain ⟨k, hk, rfl⟩ := mem_getD he
  rw [h.len] at hk
  rcases h.at_ k hk with h0 | h0
  · exact absurd h0 hne
  · rw [h0, frag_read hs h3 h16 hk hl]
theorem part_look {ls : List (List Int)} (h : Part13 s d n ls) : lookBad s ls.length ls = false := by
  unfold lookBad
  rw [List.any_eq_false]
  intro k hk
  have hk' : k < ls.length := by simpa using hk
  have hkn : k < n := by rw [← h.len]; exact hk'
  unfold badB
  by_cases h0 : ls.getD k [] = []
  · rw [decide_eq_true h0]; simp
  · obtain ⟨z, hz⟩ := firstZ_at hk' h0
    obtain ⟨e, he, hne, rfl⟩ := firstZ_mem hz
    have hsz := part_size hs h3 h16 hl h (List.mem_of_mem_take he) hne
    rw [hz, hsz]
    rcases h.at_ k hkn with h1 | h1
    · exact absurd h1 h0
    · rw [h1, frag_read hs h3 h16 hkn hl, h.len]
      simp
theorem part_zL {ls : List (List Int)} (h : Part13 s d n ls) {k : Nat} (hk : k < n) (hne : ls.getD k [] ≠ []) : zL ls = d.length := by
  obtain ⟨z, hz⟩ := firstZ_at (by rw [h.len]; exact hk) hne
  have h2 := firstZ_take _ _ hz
  obtain ⟨e, he, hne', rfl⟩ := firstZ_mem h2
  unfold zL
  rw [h2, part_size hs h3 h16 hl h he hne']
  rfl
omit hs h16 hl in
theorem frags_self : Part13 s d n (fragsL s d n) := ⟨fragsL_len s d n, fun k _ => .inr rfl⟩
omit hs h3 h16 hl in
theorem part_set {ls : List (List Int)} (h : Part13 s d n ls) (i : Nat) (hi : i < n) : Part13 s d n (ls.set i []) := ⟨by simp [h.len], fun k hk => by
  rw [getD_set13 (by rw [h.len]; exact hi)]
  split
  · exact .inl rfl
  · exact h.at_ k hk⟩
theorem rows_frags : rowsOf (fragsL s d n) = rowsL d n := by
  apply List.ext_getElem
  · rw [rowsOf_len, fragsL_len, rowsL_len h3]
  · intro k h1 h2
    have hk : k < n := by rw [rowsOf_len, fragsL_len] at h1; exact h1
    rw [rowsOf_get, frag_read hs h3 h16 hk hl, List.getD_eq_getElem?_getD, List.getElem?_eq_getElem h2]
    rfl
omit hs h3 h16 hl in
theorem rows_set (ls : List (List Int)) (i : Nat) : rowsOf (ls.set i []) = (rowsOf ls).set i [] := by
  unfold rowsOf
  rw [List.map_set, readL_nil]
omit hs h3 h16 hl in
theorem filter_one : ∀ (m i : Nat), (List.range m).filter (fun k => decide (i = k)) = if i < m then [i] else []
  | 0, i => rfl
  | m + 1, i => by
    rw [List.range_succ, List.filter_append, filter_one m i]
    by_cases h1 : i < m
    · rw [if_pos h1, if_pos (by omega), List.filter_cons, if_neg (by simp; omega), List.filter_nil, List.append_nil]
    · rw [if_neg h1]
      by_cases h2 : i = m
      · rw [if_pos (by omega), List.filter_cons, if_pos (by simp [h2]), List.filter_nil, h2]; rfl
      · rw [if_neg (by omega), List.filter_cons, if_neg (by simp [h2]), List.filter_nil]; rfl
omit hs h3 h16 hl in
theorem miss_one {i : Nat} (hi : i < n) : missL ((fragsL s d n).set i []) = [i] := by
  unfold missL missK
  rw [List.length_set, fragsL_len]
  have : (List.range n).filter (fun k => decide (((fragsL s d n).set i []).getD k [] = [])) = (List.range n).filter (fun k => decide (i = k)) := by
    apply List.filter_congr
    intro k hk
    have hk' : k < n := by simpa using hk
    rw [getD_set13 (by rw [fragsL_len]; exact hi)]
    by_cases e : i = k
    · rw [if_pos e, decide_eq_true e]; rfl
    · rw [if_neg e, decide_eq_false e, decide_eq_false (frag_ne hk')]
  rw [this, filter_one, if_pos hi]
omit hs h3 h16 hl in
theorem miss_none : missL (fragsL s d n) = [] := by
  unfold missL missK
  rw [List.filter_eq_nil_iff]
  intro k hk
  have hk' : k < n := by simpa [fragsL_len] using hk
  rw [decide_eq_false (frag_ne hk')]
  simp
theorem wholeF_all (hb : ∀ z ∈ d, byteB z) : wholeL s (fragsL s d n) n = .ok (rowsL d n, d.length) := by
  unfold wholeL
  rw [if_pos ⟨maySv_is.2 ⟨by omega, by omega⟩, by rw [fragsL_len]⟩, if_neg (by rw [part_look hs h3 h16 hl (frags_self h3)]; simp), miss_none]
  simp only
  rw [rows_frags hs h3 h16 hl, if_pos, part_zL hs h3 h16 hl (frags_self h3) (k := 0) (by omega) (frag_ne (by omega))]
  exact zeroB_of (allZero_xorL (fun j => back_zero (dataL d n) j))
theorem wholeF_one (hb : ∀ z ∈ d, byteB z) {i : Nat} (hi : i < n) : wholeL s ((fragsL s d n).set i []) n = .ok (rowsL d n, d.length) := by
  have hp := part_set (frags_self (s := s) (d := d) h3) i hi
  have hlen : ((fragsL s d n).set i []).length = n := by rw [List.length_set, fragsL_len]
  obtain ⟨j, hj, hji⟩ : ∃ j, j < n ∧ i ≠ j := by
    by_cases h0 : i = 0
    · exact ⟨1, by omega, by omega⟩
    · exact ⟨0, by omega, h0⟩
  have hz := part_zL hs h3 h16 hl hp hj (by rw [getD_set13 (by rw [fragsL_len]; exact hi), if_neg hji]; exact frag_ne hj)
  unfold wholeL
  rw [if_pos ⟨maySv_is.2 ⟨by omega, by omega⟩, by rw [hlen]⟩, if_neg (by rw [part_look hs h3 h16 hl hp]; simp), miss_one hi]
  simp only
  rw [hz, hlen, rows_set, rows_frags hs h3 h16 hl, List.set_set, List.eraseIdx_set_eq]
  have hb' := back_fill (dataL d n) (dataL_byte hb n) i (show i < (rowsL d n).length by rw [rowsL_len h3]; exact hi)
  have hlr := rows_len_at (d := d) h3 hi
  change xorN ((rowsL d n).getD i []).length ((rowsL d n).eraseIdx i) = (rowsL d n).getD i [] at hb'
  rw [hlr] at hb'
  rw [Int.toNat_natCast, hb']
  congr 2
  apply List.ext_getElem
  · simp
  · intro k h1 h2
    rw [List.getElem_set]
    split
    · rename_i e
      subst e
      rw [List.getD_eq_getElem?_getD, List.getElem?_eq_getElem h2]
      rfl
    · rfl
theorem join_of {ls : List (List Int)} (hls : ls.length = n) (h : wholeL s ls n = .ok (rowsL d n, d.length)) : joinL s ls n = (d, 0) := by
  unfold joinL
  rw [h]
  simp only
  rw [hls]
  unfold rowsL
  rw [List.take_append_of_le_length (by rw [dataL_len]; exact Nat.le_refl _), List.take_of_length_le (by rw [dataL_len]; exact Nat.le_refl _), flat_is h3]
theorem join_one (hb : ∀ z ∈ d, byteB z) {i : Nat} (hi : i < n) : joinL s ((fragsL s d n).set i []) n = (d, 0) :=
  join_of hs h3 h16 hl (by rw [List.length_set, fragsL_len]) (wholeF_one hs h3 h16 hl hb hi)
theorem join_all (hb : ∀ z ∈ d, byteB z) : joinL s (fragsL s d n) n = (d, 0) :=
  join_of hs h3 h16 hl (fragsL_len s d n) (wholeF_all hs h3 h16 hl hb)
theorem mend_one (hb : ∀ z ∈ d, byteB z) {i : Nat} (hi : i < n) : mendL s ((fragsL s d n).set i []) (i : Int) n = ((fragsL s d n).getD i [], 0) := by
  rw [mendL_is (by rw [List.length_set, fragsL_len]; exact hi), List.set_set, wholeF_one hs h3 h16 hl hb hi]
  unfold mendR
  simp only
  rw [frag_get hi]
theorem wholeF_two {p q : Nat} (hp : p < n) (hq : q < n) (hpq : p ≠ q) : wholeL s (((fragsL s d n).set p []).set q []) n = .error 15 := by
  have hp2 := part_set (part_set (frags_self (s := s) (d := d) h3) p hp) q hq
  have hlen : (((fragsL s d n).set p []).set q []).length = n := by rw [List.length_set, List.length_set, fragsL_len]
  have m1 : p ∈ missL (((fragsL s d n).set p []).set q []) := missL_mem.2 ⟨by rw [hlen]; exact hp, by
    rw [getD_set13 (by rw [List.length_set, fragsL_len]; exact hq), getD_set13 (by rw [fragsL_len]; exact hp), if_neg (fun e => hpq e.symm), if_pos rfl]⟩
  have m2 : q ∈ missL (((fragsL s d n).set p []).set q []) := missL_mem.2 ⟨by rw [hlen]; exact hq, by
    rw [getD_set13 (by rw [List.length_set, fragsL_len]; exact hq), if_pos rfl]⟩
  unfold wholeL
  rw [if_pos ⟨maySv_is.2 ⟨by omega, by omega⟩, by rw [hlen]⟩, if_neg (by rw [part_look hs h3 h16 hl hp2]; simp)]
  match hm : missL (((fragsL s d n).set p []).set q []) with
  | [] => rw [hm] at m1; cases m1
  | [x] =>
    rw [hm] at m1 m2
    simp at m1 m2
    exact absurd (m1.trans m2.symm) hpq
  | a :: b :: r => rfl
theorem join_two {p q : Nat} (hp : p < n) (hq : q < n) (hpq : p ≠ q) : joinL s (((fragsL s d n).set p []).set q []) n = ([], 15) := by
  unfold joinL
  rw [wholeF_two hs h3 h16 hl hp hq hpq]
theorem mend_two {p q : Nat} (hp : p < n) (hq : q < n) (hpq : p ≠ q) : mendL s (((fragsL s d n).set p []).set q []) (p : Int) n = ([], 15) := by
  rw [mendL_is (by rw [List.length_set, List.length_set, fragsL_len]; exact hp), List.set_comm _ _ (fun e => hpq e.symm), List.set_set, wholeF_two hs h3 h16 hl hp hq hpq]
  rfl
omit hs hl in
theorem join_bad {ls : List (List Int)} (hls : ls.length = n) (hne : ls.getD 0 [] ≠ []) (hb : (readL (ls.getD 0 [])).1.s ≠ s ∨ (readL (ls.getD 0 [])).1.i ≠ 0) : joinL s ls n = ([], 4) := by
  have hbad : lookBad s ls.length ls = true := by
    unfold lookBad
    rw [List.any_eq_true]
    refine ⟨0, by simp; omega, ?_⟩
    unfold badB
    rw [decide_eq_false hne, decide_eq_false (p := (readL (ls.getD 0 [])).1 = _)]
    · simp
    · intro h
      rw [h] at hb
      rcases hb with h1 | h1
      · exact h1 rfl
      · exact h1 rfl
  unfold joinL wholeL
  rw [if_pos ⟨maySv_is.2 ⟨by omega, by omega⟩, by rw [hls]⟩, if_pos hbad]
theorem frag_inj {t : Spe} (ht : mayE t = true) {i j : Nat} (hi : i < n) (hj : j < n) (h : (fragsL s d n).getD i [] = (fragsL t d n).getD j []) : i = j ∧ s = t := by
  have h1 := frag_read hs h3 h16 hi hl
  have h2 := frag_read ht h3 h16 hj hl
  rw [h, h2] at h1
  have h4 := congrArg Prod.fst h1
  simp only [Hd13.mk.injEq] at h4
  exact ⟨by have := h4.2.1; omega, h4.1.symm⟩
end
end Go.Proofs.Ytoglcohdanpciaa


/- layout: heads copied onto a new row, rows put in others' places there. -/
namespace Go.Proofs.Ytoglcohdanpciaa
open Go.RowKit Go.Shelf
set_option maxRecDepth 100000
set_option linter.unusedSimpArgs false
set_option linter.unusedVariables false

structure CopyAt (wo w : World) (g n c : Nat) (vs : List Value) (ls : List (List Int)) : Prop where
  own : w.ownsRow wo.heap.size 34 1 (.slice (some ⟨g, 0, none⟩) n c) n vs
  vlen : vs.length = n
  llen : ls.length = n
  row : ∀ j (h : j < vs.length), RowAt wo vs[j] (ls.getD j [])
  few : ∀ l ∈ ls, l.length ≤ 140737488351232
  kept : Keeps [] wo w
theorem CopyAt.lo {wo w : World} {g n c : Nat} {vs : List Value} {ls : List (List Int)} (h : CopyAt wo w g n c vs ls) : wo.heap.size ≤ g := (h.own.lt g rfl).1
theorem CopyAt.rs {wo w : World} {g n c : Nat} {vs : List Value} {ls : List (List Int)} (h : CopyAt wo w g n c vs ls) : RsAt w (.slice (some ⟨g, 0, none⟩) n c) ls :=
  rs_own h.own h.vlen h.llen (fun j hj => (h.row j hj).keep h.kept (by intro _ _ _ _ _; simp)) h.few
theorem CopyAt.later {wo w w' : World} {g n c : Nat} {vs : List Value} {ls : List (List Int)} (h : CopyAt wo w g n c vs ls) (k : Keeps [] w w') : CopyAt wo w' g n c vs ls :=
  ⟨own_keeps h.own k, h.vlen, h.llen, h.row, h.few, h.kept.trans k⟩
theorem CopyAt.cell {wo w : World} {g n c : Nat} {vs : List Value} {ls : List (List Int)} (h : CopyAt wo w g n c vs ls) {k : Nat} (hk : k < n) : ∃ a m d, w.cell? ⟨g, k, none⟩ = some (.slice a m d) ∧ w.frozen? ⟨g, k, none⟩ = false := by
  have hc := h.own.cellAt k (by omega)
  have hf := h.own.frozenAt k
  have hv : k < vs.length := by rw [h.vlen]; exact hk
  rw [List.getElem?_eq_getElem hv] at hc
  obtain ⟨a, d, e, _⟩ := h.row k hv
  exact ⟨a, _, d, by rw [hc, e], hf⟩
theorem CopyAt.put {wo w : World} {g n c : Nat} {vs : List Value} {ls : List (List Int)} (h : CopyAt wo w g n c vs ls) {k : Nat} (hk : k < n) {v : Value} {zs : List Int} (hr : RowAt wo v zs) (hl : zs.length ≤ 140737488351232) :
    CopyAt wo (w.setCell ⟨g, k, none⟩ v) g n c (vs.set k v) (ls.set k zs) := by
  refine ⟨(h.own.stored k v).1, by rw [List.length_set]; exact h.vlen, by rw [List.length_set]; exact h.llen, fun j hj => ?_, fun l hl' => ?_, h.kept.trans' set_keep (fun j hj hm => by have := h.lo; simp at hm; omega)⟩
  · have hj' : j < vs.length := by simpa using hj
    rw [List.getElem_set, getD_set13 (by rw [h.llen]; exact hk)]
    by_cases e : k = j
    · rw [if_pos e, if_pos e]; exact hr
    · rw [if_neg e, if_neg e]; exact h.row j hj'
  · rcases List.mem_or_eq_of_mem_set hl' with h1 | h1
    · exact h.few l h1
    · rw [h1]; exact hl
theorem copy_of {wo w : World} {a : Option Addr} {n c : Nat} {vs : List Value} {ls : List (List Int)} (ho : w.ownsRow wo.heap.size 34 1 (.slice a n c) n vs) (hn : 0 < n) (hv : vs.length = n) (hl : ls.length = n) (hr : ∀ j (h : j < vs.length), RowAt wo vs[j] (ls.getD j [])) (hf : ∀ l ∈ ls, l.length ≤ 140737488351232) (k : Keeps [] wo w) :
    ∃ g, a = some ⟨g, 0, none⟩ ∧ CopyAt wo w g n c vs ls := by
  have : ∃ g, a = some ⟨g, 0, none⟩ := by
    rcases ho.2 with ⟨h', h0⟩ | ⟨g, cap', cur, h', _⟩
    · omega
    · injection h' with h' _ _; exact ⟨g, h'⟩
  obtain ⟨g, rfl⟩ := this
  exact ⟨g, rfl, ho, hv, hl, hr, hf, k⟩
/-- What stands ready for a copy of heads. -/
theorem copy_src (wo : World) {g n : Nat} {vs : List Value} (hb : wo.heap[g]? = some (.cells vs.toArray 34 (0, 0))) (hv : vs.length = n) (hs : ∀ u ∈ vs, ∃ a n c, u = .slice a n c) :
    (wo.alloc (.cells #[] 34)).ownsRow wo.heap.size 34 1 (.slice (some ⟨wo.heap.size, 0, none⟩) 0 0) 0 [] ∧ (∀ ad, (some ⟨g, 0, none⟩ : Option Addr) = some ad → ∀ j u, vs[j]? = some u → (wo.alloc (.cells #[] 34)).cell? (ad.add j) = some u) ∧ (∀ u ∈ vs, u.oneCell' = true) ∧ Keeps [] wo (wo.alloc (.cells #[] 34)) := by
  have kk : Keeps [] wo (wo.alloc (.cells #[] 34)) := (Keeps.refl [] wo).alloc _
  refine ⟨World.ownsRow_lit (base := wo.heap.size) (e := 34) (size := 1) wo #[] 0 (Nat.le_refl _) (by unfold maxLen; omega) rfl, ?_, fun u hu => ?_, kk⟩
  · rintro ad had j u hu
    obtain rfl := Option.some.inj had
    rw [Addr.add_lit, Nat.zero_add]
    refine kk.cell ?_ (by simp)
    rw [(five_cells hb j).1, List.getElem?_toArray]
    exact hu
  · obtain ⟨a, m, c, rfl⟩ := hs u hu
    rfl
end Go.Proofs.Ytoglcohdanpciaa
