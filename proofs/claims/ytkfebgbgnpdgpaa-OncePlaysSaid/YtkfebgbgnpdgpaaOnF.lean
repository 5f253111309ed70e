/- once: the walks of the laws' stamp, of the reference's May; stamps that come in. -/
import Derived.Test.YtkfebgbgnpdgpaaOnE
import Derived.Test.YtkfebgbgnpdgpaaOpenC
import Derived.Deep.Strs
import Derived.ChangeSame
namespace Go.Proofs.Ytkfebgbgnpdgpaa
open Go.Deep Go.ChangeShapes Go.WideShapes Go.ChangeAt Go.RowKit Go.Shelf
set_option maxRecDepth 100000
set_option linter.unusedSimpArgs false

section
variable {ops : Array Oper} {rest : List Oper} {o : Oper} {a : Act} {w : World} {Q : Exit → Act → World → Prop}
theorem wpList_allocSt (hgd : o.guard = none) (ho : o.op = .alloc 48) (h : wpList Try.prog ops Q rest (a.put o.dst (.pointer (some ⟨w.heap.size, 0, none⟩))) (w.alloc (.cells #[.int .i64 0, .int .i64 0, .int .i64 0] 48))) : wpList Try.prog ops Q (o :: rest) a w :=
  wpList_is hgd _ _ (exec_alloc 48 _ iStamp ho) h
theorem wpList_storeSt (hgd : o.guard = none) (x y : Operand) (ho : o.op = .store 48 x y) (W : World) (hw : w = W.alloc (.cells #[.int .i64 0, .int .i64 0, .int .i64 0] 48)) (hx : a.eval x = .pointer (some ⟨W.heap.size, 0, none⟩)) (c l s : Int)
    (hy : a.eval y = .agg #[.int .i64 c, .int .i64 l, .int .i64 s]) (h : wpList Try.prog ops Q rest (a.put o.dst undef) (W.alloc (.cells #[.int .i64 c, .int .i64 l, .int .i64 s] 48))) : wpList Try.prog ops Q (o :: rest) a w :=
  wpList_noval hgd _ (exec_storeNew 48 x y ho W _ #[.int .i64 c, .int .i64 l, .int .i64 s] hw hx hy iStamp rfl (by simp [Value.oneCell'])) h
end

set_option maxHeartbeats 800000 in
theorem j8Stamp_any (w : World) (c l s : Int) : Calls Try.prog 24 #[stV c l s] w fun e w' => e = .returned (stV c l s) ∧ Keeps [] w w' := by
  have K := hid (((Keeps.refl [] w).alloc (.cells #[.int .i64 c, .int .i64 l, .int .i64 s] 57)).alloc (.cells #[.int .i64 c, .int .i64 l, .int .i64 s] 48))
  have B : Hid (((w.alloc (.cells #[.int .i64 c, .int .i64 l, .int .i64 s] 57)).alloc (.cells #[.int .i64 c, .int .i64 l, .int .i64 s] 48)).heap[w.heap.size + 1]? = some (.cells #[.int .i64 c, .int .i64 l, .int .i64 s] 48 (0, 0))) := hid (by
    have := heap_alloc_new (w.alloc (.cells #[.int .i64 c, .int .i64 l, .int .i64 s] 57)) (.cells #[.int .i64 c, .int .i64 l, .int .i64 s] 48)
    simpa using this)
  unfold stV
  go_enter Try.func24, Try.ntmps24
  go_wp2_with (first | (refine wpList_allocSt rfl rfl ?_) | (refine wpList_storeSt rfl _ _ rfl (w.alloc (.cells #[.int .i64 c, .int .i64 l, .int .i64 s] 57)) rfl rfl c l s rfl ?_) | fail)
  refine bodyPost_ret (results_cell_row (p := 2) (ty := 48) rfl _ _ _ 48 #[.int .i64 c, .int .i64 l, .int .i64 s] (0, 0) _ rfl B.out Try.underlying48 rfl (size_of' iStamp)) rfl ?_
  exact ⟨rfl, K.out⟩

set_option maxHeartbeats 1600000 in
theorem vMay_any (w : World) (c l s : Int) : Calls Try.prog 34 #[stV c l s] w fun e w' => e = .returned (.bool (mayS c l s)) ∧ Keeps [] w w' := by
  have K := hid ((Keeps.refl [] w).alloc (.cells #[.int .i64 c, .int .i64 l, .int .i64 s] 57))
  have E : Hid (mayS c l s = (decide (0 ≤ c) && (decide (c < 4) && (decide (0 ≤ l) && (decide (l ≤ 1048576) && (decide (1 ≤ s) && decide (s ≤ 1073741824))))))) := hid (by simp [mayS])
  unfold stV
  by_cases h0 : 0 ≤ c
  · by_cases hc : c < 4
    · by_cases h1 : 0 ≤ l
      · by_cases h2 : l ≤ 1048576
        · by_cases h3 : 1 ≤ s
          · go_enter Try.func34, Try.ntmps34
            go_wp2_with fail
            go_ret
            exact ⟨ret_bool8 (by rw [E.out]; simp [h0, hc, h1, h2, h3]), K.out⟩
          · go_enter Try.func34, Try.ntmps34
            go_wp2_with fail
            go_ret
            exact ⟨ret_bool8 (by rw [E.out]; simp; omega), K.out⟩
        · go_enter Try.func34, Try.ntmps34
          go_wp2_with fail
          go_ret
          exact ⟨ret_bool8 (by rw [E.out]; simp; omega), K.out⟩
      · go_enter Try.func34, Try.ntmps34
        go_wp2_with fail
        go_ret
        exact ⟨ret_bool8 (by rw [E.out]; simp; omega), K.out⟩
    · go_enter Try.func34, Try.ntmps34
      go_wp2_with fail
      go_ret
      exact ⟨ret_bool8 (by rw [E.out]; simp; omega), K.out⟩
  · go_enter Try.func34, Try.ntmps34
    go_wp2_with fail
    go_ret
    exact ⟨ret_bool8 (by rw [E.out]; simp; omega), K.out⟩

section
variable {H : Type} {enc : TypeId × Value → H}
theorem cells_vstamp : Try.prog.cellsOf 57 = 3 := by kernel_rfl
theorem cells_int8 : Try.prog.cellsOf 3 = 1 := by kernel_rfl
theorem stamp_of_trod {W : World} {base : Nat} {v : Value} {d : DataW H} {p : List MemPlace} (hv : Value.okWide Try.prog W .any base 57 v) (h : DataW.Trod enc Try.prog W 0 (fun _ => true) true 57 v d p) :
    ∃ z : Int × Int × Int, v = stV z.1 z.2.1 z.2.2 ∧ d = .agg [.lit (.int .i64 z.1), .lit (.int .i64 z.2.1), .lit (.int .i64 z.2.2)] ∧ p = [] ∧
      ((Lit.int .i64 z.1).wf = true ∧ (Lit.int .i64 z.2.1).wf = true ∧ (Lit.int .i64 z.2.2).wf = true) := by
  obtain ⟨cs, rfl, hsz, _⟩ : ∃ cs, v = .agg cs ∧ cs.size = Try.prog.cellsOf 57 ∧ Row.okWide Try.prog W .any base 57 cs := by
    simpa [Value.okWide, Try.underlying57] using hv
  rw [cells_vstamp] at hsz
  obtain ⟨l⟩ := cs
  obtain ⟨c0, c1, c2, rfl⟩ : ∃ a b c, l = [a, b, c] := by
    match l, hsz with
    | [a, b, c], _ => exact ⟨a, b, c, rfl⟩
  obtain ⟨fuel, hf⟩ := h
  obtain ⟨y0, y1, y2, m2, e, _, g0, g1, g2⟩ := trod_struct3 Try.underlying57 hf
  simp only [cells_int8, Value.cells, List.drop_zero, List.drop_succ_cons, List.take_succ_cons, List.take_zero, List.take_nil] at g0 g1 g2
  obtain ⟨z, e0, rfl, w0⟩ := DataW.trod_int Try.underlying3 g0
  obtain ⟨y, e1, rfl, w1⟩ := DataW.trod_int Try.underlying3 g1
  obtain ⟨x, e2, rfl, w2⟩ := DataW.trod_int Try.underlying3 g2
  simp at e0 e1 e2 e
  subst e0 e1 e2
  exact ⟨⟨z, y, x⟩, rfl, e.1, e.2, w0, w1, w2⟩
theorem stamp_shut {W : World} {sp : Nat → Bool} {held : Bool} {z : Int × Int × Int} (h : (Lit.int .i64 z.1).wf = true ∧ (Lit.int .i64 z.2.1).wf = true ∧ (Lit.int .i64 z.2.2).wf = true) :
    DataW.Trod enc Try.prog W 0 sp held 57 (stV z.1 z.2.1 z.2.2) (.agg [.lit (.int .i64 z.1), .lit (.int .i64 z.2.1), .lit (.int .i64 z.2.2)]) [] :=
  ⟨3, by simp [DataW.trod, Value.cells, stV, Try.underlying57, Try.underlying3, cells_vstamp, cells_int8, h.1, h.2.1, h.2.2]⟩
end
end Go.Proofs.Ytkfebgbgnpdgpaa
