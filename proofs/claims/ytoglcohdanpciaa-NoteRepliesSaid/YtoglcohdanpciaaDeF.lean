/- delta: which pointers are read besides; the parts of Get. -/
import Derived.Test.YtoglcohdanpciaaDeE
namespace Go.Proofs.Ytoglcohdanpciaa
open Go.RowKit Go.Shelf
set_option maxRecDepth 100000
set_option linter.unusedSimpArgs false

def fnV (f b : Nat) : Value := .func (.func f) #[.pointer (some ⟨b, 0, none⟩)] #[]
section
variable {w : World} {p b : Nat} {x : Dl}
set_option maxHeartbeats 3200000 in
theorem dPtrs1_any (hb : w.heap[b]? = some (.cells (rdCells p x) 231 (0, 0))) (hd : x.d = 1) :
    Calls Try.prog 184 #[.pointer (some ⟨b, 0, none⟩)] w fun e w' => e = .returned (.slice (some ⟨w.heap.size, 0, none⟩) 1 1) ∧ w' = w.alloc (.cells #[fnV 195 b] 1) := by
  have hmf : ∀ (fn : Fn) (first cap : Array Value) (w : World), (Instr.makeFunc fn first cap).run Try.prog w = .ok (.func fn first cap) w := fun _ _ _ _ => rfl
  obtain ⟨c1, f1⟩ := five_cells hb 1
  change w.cell? ⟨b, 1, none⟩ = some (.int .i64 x.d) at c1
  rw [hd] at c1
  clear f1 hb hd
  go_enter Try.func184, Try.ntmps184
  go_wp2_with fail
  go_ret
  exact ⟨rfl, rfl⟩
set_option maxHeartbeats 3200000 in
theorem dPtrs3_any (hb : w.heap[b]? = some (.cells (rdCells p x) 231 (0, 0))) (hd : x.d = 3) :
    Calls Try.prog 184 #[.pointer (some ⟨b, 0, none⟩)] w fun e w' => e = .returned (.slice (some ⟨w.heap.size, 0, none⟩) 2 2) ∧ w' = w.alloc (.cells #[fnV 196 b, fnV 195 b] 1) := by
  have hmf : ∀ (fn : Fn) (first cap : Array Value) (w : World), (Instr.makeFunc fn first cap).run Try.prog w = .ok (.func fn first cap) w := fun _ _ _ _ => rfl
  obtain ⟨c1, f1⟩ := five_cells hb 1
  change w.cell? ⟨b, 1, none⟩ = some (.int .i64 x.d) at c1
  rw [hd] at c1
  clear f1 hb hd
  go_enter Try.func184, Try.ntmps184
  go_wp2_with fail
  go_ret
  exact ⟨rfl, rfl⟩
set_option maxHeartbeats 3200000 in
theorem dPtrs0_any (hb : w.heap[b]? = some (.cells (rdCells p x) 231 (0, 0))) (h1 : x.d ≠ 1) (h3 : x.d ≠ 3) :
    Calls Try.prog 184 #[.pointer (some ⟨b, 0, none⟩)] w fun e w' => e = .returned (.slice none 0 0) ∧ w' = w := by
  obtain ⟨c1, f1⟩ := five_cells hb 1
  change w.cell? ⟨b, 1, none⟩ = some (.int .i64 x.d) at c1
  have e1 : (x.d == 1) = false := by simpa using h1
  have e3 : (x.d == 3) = false := by simpa using h3
  clear f1 hb h1 h3
  go_enter Try.func184, Try.ntmps184
  go_wp2_with fail
  go_ret
  exact ⟨rfl, rfl⟩
end
theorem buildRd (w : World) (p : Nat) : (Instr.build 231 #[(0, .pointer (some ⟨p, 0, none⟩))]).run Try.prog w = .ok (.agg (rdCells p dZ)) w := by kernel_rfl
theorem exec_buildRd {ρ : Operand → Value} {o : Oper} {w : World} (x : Operand) (p : Nat) (ho : o.op = .build 231 #[(0, x)]) (hx : ρ x = .pointer (some ⟨p, 0, none⟩)) : (execOp ρ o).run Try.prog w = .ok (.value (.agg (rdCells p dZ))) w := by
  simp only [execOp, ho, List.map_toArray, List.map_cons, List.map_nil, hx, Sem.run_bind, buildRd, Result.andThen_ok, Sem.run_pure]
theorem dl_ret2 {fn : Func} {p q : Tmp} (hr : fn.results = #[.cell p 149, .tmp q]) {tmps : Array Value} {w : World} {b : Nat} {x : Dl} {y : Value} (hp : tmps.getD p undef = .pointer (some ⟨b, 0, none⟩)) (hx : w.rangeAt b 0 x.cells) (hq : tmps.getD q undef = y) :
    (results fn tmps).run Try.prog w = .ok (.tuple #[dlV x, y]) w := by
  have hv : (loadVar 149 ⟨b, 0, none⟩).run Try.prog w = .ok (dlV x) w := run_loadVar_mid w b 0 149 x.cells _ hx uDelta rfl (by rw [sDelta]; rfl)
  have hp' : tmps[p]?.getD undef = .pointer (some ⟨b, 0, none⟩) := by simpa using hp
  have hq' : tmps[q]?.getD undef = y := by simpa using hq
  simp [results, hr, hp', hq', asAddr, hv, Result.andThen]
theorem dl_ret1 {fn : Func} {p : Tmp} (hr : fn.results = #[.cell p 149]) {tmps : Array Value} {w : World} {b : Nat} {x : Dl} (hp : tmps.getD p undef = .pointer (some ⟨b, 0, none⟩)) (hx : w.rangeAt b 0 x.cells) : (results fn tmps).run Try.prog w = .ok (dlV x) w := by
  have hp' : tmps[p]?.getD undef = .pointer (some ⟨b, 0, none⟩) := by simpa using hp
  have hv : (loadVar 149 ⟨b, 0, none⟩).run Try.prog w = .ok (dlV x) w := run_loadVar_mid w b 0 149 x.cells _ hx uDelta rfl (by rw [sDelta]; rfl)
  simp [results, hr, hp', asAddr, hv]
end Go.Proofs.Ytoglcohdanpciaa
