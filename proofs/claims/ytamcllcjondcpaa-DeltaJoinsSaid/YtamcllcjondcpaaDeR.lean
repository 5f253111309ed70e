/- delta: rows of bytes laid behind one another; a row of no deltas. -/
import Derived.Test.YtamcllcjondcpaaDeJb
import Derived.Test.YtamcllcjondcpaaKitF
import Derived.Test.YtamcllcjondcpaaRefC
namespace Go.Proofs.Ytamcllcjondcpaa
open Go.RowKit Go.Shelf
set_option maxRecDepth 100000
set_option linter.unusedSimpArgs false

theorem append_b8 {w : World} {B : Nat} {v : Value} {zs es : List Int} (h : w.ownsRow B 5 1 v zs.length (zs.map (Value.int .u8))) (A : Option Addr) (n c : Nat) (hs : RowAt w (.slice A n c) es) (hl : zs.length + es.length ≤ 100000) (hB : B ≤ w.heap.size) (ty : TypeId) :
    ∃ a' c' w', (Builtin.append_ #[22, 22] ty #[v, .slice A n c]).run Try.prog w = .ok (.slice a' (zs ++ es).length c') w' ∧ w'.ownsRow B 5 1 (.slice a' (zs ++ es).length c') (zs ++ es).length ((zs ++ es).map (Value.int .u8)) ∧ Keeps v.ownBlock.toList w w' := by
  obtain ⟨i, hi, hz, hz3, hz40⟩ := info_parts info5
  obtain ⟨a0, c0, hv0, h1, h2, h0, hb, h4⟩ := id hs
  injection hv0 with e1 e2 e3
  subst e1; subst e2; subst e3
  obtain ⟨a', c', w', hr, ho, hg, hn⟩ := run_append_rowsO (P := Try.prog) w B 22 ty 5 i _ 1 1 Try.underlying22 hi hz hz3 hz40 rfl (by omega) v zs.length (zs.map (Value.int .u8)) h A es.length c (es.map (Value.int .u8)) (by simp) h0 h1
    (fun ad had j u hu => h4 ad had j u hu) (fun u hu => by obtain ⟨z, _, rfl⟩ := List.mem_map.1 hu; rfl) (by unfold maxLen; omega) (by omega) hB
  rw [← List.length_append] at hr ho
  exact ⟨a', c', w', hr, by rw [List.map_append]; exact ho, (Keeps.refl _ _).grown hg (fun k hk => Or.inl (by simp [hk]))⟩
theorem exec_twoB {ρ : Operand → Value} {o : Oper} {w : World} (x y : Operand) (c d : Int) (ho : o.op = .buildSlice 22 2 #[(0, x), (1, y)]) (hx : ρ x = .int .u8 c) (hy : ρ y = .int .u8 d) :
    (execOp ρ o).run Try.prog w = .ok (.value (.slice (some ⟨w.heap.size, 0, none⟩) 2 2)) (w.alloc (.cells #[.int .u8 c, .int .u8 d] 5)) := by
  obtain ⟨ie, hie, hz, hs, _⟩ := info_parts info5
  have h : (Instr.buildSlice 22 2 #[(0, .int .u8 c), (1, .int .u8 d)]).run Try.prog w = .ok (.slice (some ⟨w.heap.size, 0, none⟩) 2 2) (w.alloc (.cells #[.int .u8 c, .int .u8 d] 5)) := by
    refine run_buildSlice w _ _ 2 _ _ ie _ Try.underlying22 hie hz (by rw [hs]; decide) (by rw [hs]; decide) ?_
    rw [hs]
    have e : (Array.range (2 * 1)) = #[0, 1] := rfl
    have e2 : (Value.int .u8 0).cells = #[.int .u8 0] := rfl
    have e3 : ∀ c, (Value.int .u8 c).cells = #[.int .u8 c] := fun _ => rfl
    simp only [Instr.fill, e, e2, e3]
    simp
  simp only [execOp, ho, List.map_toArray, List.map_cons, List.map_nil, hx, hy, Sem.run_bind, h, Result.andThen_ok, Sem.run_pure]
theorem own_two (w : World) (B : Nat) (hB : B ≤ w.heap.size) (c d : Int) : (w.alloc (.cells #[.int .u8 c, .int .u8 d] 5)).ownsRow B 5 1 (.slice (some ⟨w.heap.size, 0, none⟩) 2 2) [c, d].length ([c, d].map (Value.int .u8)) :=
  ⟨by simp, .inr ⟨w.heap.size, 2, _, rfl, hB, heap_alloc_new w _, Nat.le_refl _, by decide, rfl, rfl⟩⟩
theorem exec_noDl {ρ : Operand → Value} {o : Oper} {w : World} (ho : o.op = .buildSlice 23 0 #[]) :
    (execOp ρ o).run Try.prog w = .ok (.value (.slice (some ⟨w.heap.size, 0, none⟩) 0 0)) (w.alloc (.cells #[] 49)) := by
  obtain ⟨ie, hie, hz, hs, _⟩ := info_parts iDelta3
  have h : (Instr.buildSlice 23 0 #[]).run Try.prog w = .ok (.slice (some ⟨w.heap.size, 0, none⟩) 0 0) (w.alloc (.cells #[] 49)) := by
    simp [Instr.buildSlice, run_underlying Try.underlying23, sizeOf, typeInfo, hie, hs, Instr.fill, newRow]
    congr 2
    exact Array.ext' (by simp)
  simp only [execOp, ho, List.map_toArray, List.map_nil, Sem.run_bind, h, Result.andThen_ok, Sem.run_pure]
theorem own_noDl (w : World) (B : Nat) (hB : B ≤ w.heap.size) : OwnD (w.alloc (.cells #[] 49)) B (.slice (some ⟨w.heap.size, 0, none⟩) 0 0) [] :=
  ⟨⟨rfl, .inr ⟨w.heap.size, 0, _, rfl, hB, heap_alloc_new w _, Nat.le_refl _, by decide, rfl, rfl⟩⟩⟩
section
variable {P : Program} {ops : Array Oper} {Q : Exit → Act → World → Prop}
theorem at_opD {i : Nat} {o : Oper} {a : Act} {w : World} {K : Act → World → Prop} (ho' : ops.toList[i]? = some o) (hg : o.guard = none) (h : o.wp P a w K Q) : wpOp P ops Q i K a w := by
  have ho : ops[i]? = some o := by simpa using ho'
  have hw : Region.wanted o (yielded ops a.tmps) = true := by simp [Region.wanted, hg]
  unfold wpOp
  simp only [ho, hw, if_true]
  exact Or.inl h
end
theorem be_two (x : Int) : be x 2 = [x / 256 % 256, x % 256] := by rw [be_succ, be_one]; rfl
end Go.Proofs.Ytamcllcjondcpaa
