/- A slice of one number; of one row, as single operations. (For every layer.) -/
import Derived.Test.YtoglcohdanpciaaKitE
namespace Go.Proofs.Ytoglcohdanpciaa
open Go.RowKit
set_option maxRecDepth 100000

theorem infoT3 : (Try.prog.info? 3).map (fun i => (i.zero, i.size, i.bytes)) = some (some (.int .i64 0), 1, 8) := by kernel_rfl
theorem infoT28 : (Try.prog.info? 34).map (fun i => (i.zero, i.size, i.bytes)) = some (some (.slice none 0 0), 1, 24) := by kernel_rfl

/-- A slice of one number; of one row. -/
theorem exec_oneInt {ρ : Operand → Value} {o : Oper} {w : World} (x : Operand) (c : Int) (ho : o.op = .buildSlice 178 1 #[(0, x)]) (hx : ρ x = .int .i64 c) :
    (execOp ρ o).run Try.prog w = .ok (.value (.slice (some ⟨w.heap.size, 0, none⟩) 1 1)) (w.alloc (.cells #[.int .i64 c] 3)) := by
  obtain ⟨ie, hie, hz, hs, _⟩ := info_parts infoT3
  have h : (Instr.buildSlice 178 1 #[(0, .int .i64 c)]).run Try.prog w = .ok (.slice (some ⟨w.heap.size, 0, none⟩) 1 1) (w.alloc (.cells #[.int .i64 c] 3)) := by
    refine run_buildSlice w _ _ 1 _ _ ie _ Try.underlying178 hie hz (by rw [hs]; decide) (by rw [hs]; decide) ?_
    rw [hs]
    have e : (Array.range (1 * 1)) = #[0] := rfl
    have e2 : (Value.int .i64 0).cells = #[.int .i64 0] := rfl
    have e3 : (Value.int .i64 c).cells = #[.int .i64 c] := rfl
    simp only [Instr.fill, e, e2, e3]
    simp
  simp only [execOp, ho, List.map_toArray, List.map_cons, List.map_nil, hx, Sem.run_bind, h, Result.andThen_ok, Sem.run_pure]

theorem exec_oneRow {ρ : Operand → Value} {o : Oper} {w : World} (x : Operand) (a : Option Addr) (n c : Nat) (ho : o.op = .buildSlice 26 1 #[(0, x)]) (hx : ρ x = .slice a n c) :
    (execOp ρ o).run Try.prog w = .ok (.value (.slice (some ⟨w.heap.size, 0, none⟩) 1 1)) (w.alloc (.cells #[.slice a n c] 34)) := by
  obtain ⟨ie, hie, hz, hs, _⟩ := info_parts infoT28
  have h : (Instr.buildSlice 26 1 #[(0, .slice a n c)]).run Try.prog w = .ok (.slice (some ⟨w.heap.size, 0, none⟩) 1 1) (w.alloc (.cells #[.slice a n c] 34)) := by
    refine run_buildSlice w _ _ 1 _ _ ie _ Try.underlying26 hie hz (by rw [hs]; decide) (by rw [hs]; decide) ?_
    rw [hs]
    have e : (Array.range (1 * 1)) = #[0] := rfl
    have e2 : (Value.slice none 0 0).cells = #[.slice none 0 0] := rfl
    have e3 : (Value.slice a n c).cells = #[.slice a n c] := rfl
    simp only [Instr.fill, e, e2, e3]
    simp
  simp only [execOp, ho, List.map_toArray, List.map_cons, List.map_nil, hx, Sem.run_bind, h, Result.andThen_ok, Sem.run_pure]
end Go.Proofs.Ytoglcohdanpciaa
