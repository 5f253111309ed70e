/- layout: the laws' stripes, servers. -/
import Derived.Test.YtoglcohdanpciaaLyJ4
import Derived.Test.YtoglcohdanpciaaKitE
import Derived.Test.YtoglcohdanpciaaKitG
namespace Go.Proofs.Ytoglcohdanpciaa
open Go.RowKit Go.Shelf
set_option maxRecDepth 100000
set_option linter.unusedSimpArgs false
set_option linter.unusedVariables false

theorem and64 (x m : Int) (m' : Nat) (e : m = m') (hm : m' ≤ 1073741824) : 0 ≤ bits BinOp.and IntKind.i64 x m ∧ bits BinOp.and IntKind.i64 x m ≤ m' := by
  subst e
  have h1 : (BitVec.ofInt 64 x &&& BitVec.ofInt 64 (m' : Int)).toNat ≤ m' := by
    rw [BitVec.toNat_and]
    refine Nat.le_trans Nat.and_le_right ?_
    rw [BitVec.ofInt_natCast, BitVec.toNat_ofNat]
    exact Nat.mod_le _ _
  show 0 ≤ IntKind.i64.wrap ((BitVec.ofInt 64 x &&& BitVec.ofInt 64 (m' : Int)).toNat : Int) ∧ IntKind.i64.wrap ((BitVec.ofInt 64 x &&& BitVec.ofInt 64 (m' : Int)).toNat : Int) ≤ _
  generalize (BitVec.ofInt 64 x &&& BitVec.ofInt 64 (m' : Int)).toNat = n at h1
  rw [IntWalk.i64_in _ (by omega)]
  omega
/-- A stripe by a number, as the laws have it. -/
def speM (m : Int) : Spe := ⟨bits .and .i64 m 3, bits .and .i64 (m / 4) 7, bits .and .i64 (m / 32) 16777215⟩
theorem speM_may (m : Int) : mayE (speM m) = true ∧ 0 ≤ (speM m).n ∧ (speM m).n ≤ 16777215 := by
  have a := and64 m 3 3 rfl (by decide)
  have b := and64 (m / 4) 7 7 rfl (by decide)
  have c := and64 (m / 32) 16777215 16777215 rfl (by decide)
  refine ⟨?_, c⟩
  unfold mayE msB
  rw [Bool.and_eq_true, Bool.and_eq_true, btw_is, btw_is, btw_is]
  refine ⟨⟨⟨a.1, ?_⟩, b.1, ?_⟩, c.1, ?_⟩
  · show bits .and .i64 m 3 ≤ 4; omega
  · show bits .and .i64 (m / 4) 7 ≤ 1048576; omega
  · show bits .and .i64 (m / 32) 16777215 ≤ 1073741824; omega
theorem buildSpe (s : Spe) (w : World) : (Instr.build 30 #[(0, .int .i64 s.c), (1, .int .i64 s.l), (2, .int .i64 s.n)]).run Try.prog w = .ok (speV s) w := by kernel_rfl
theorem exec_buildSpe {ρ : Operand → Value} {o : Oper} {w : World} (x0 x1 x2 : Operand) (ho : o.op = .build 30 #[(0, x0), (1, x1), (2, x2)]) (s : Spe) (h0 : ρ x0 = .int .i64 s.c) (h1 : ρ x1 = .int .i64 s.l) (h2 : ρ x2 = .int .i64 s.n) :
    (execOp ρ o).run Try.prog w = .ok (.value (speV s)) w := by
  simp only [execOp, ho, List.map_toArray, List.map_cons, List.map_nil, h0, h1, h2, Sem.run_bind, buildSpe, Result.andThen_ok, Sem.run_pure]
theorem spe_ret {fn : Func} {p : Tmp} (hr : fn.results = #[.cell p 30]) {tmps : Array Value} {w : World} {b : Nat} {s : Spe} (hp : tmps.getD p undef = .pointer (some ⟨b, 0, none⟩)) (hx : w.rangeAt b 0 s.cells) : (results fn tmps).run Try.prog w = .ok (speV s) w := by
  have hp' : tmps[p]?.getD undef = .pointer (some ⟨b, 0, none⟩) := by simpa using hp
  have hv : (loadVar 30 ⟨b, 0, none⟩).run Try.prog w = .ok (speV s) w := run_loadVar_mid w b 0 30 s.cells _ hx uStripe rfl (by rw [sStripe]; rfl)
  simp [results, hr, hp', asAddr, hv]
set_option maxHeartbeats 3200000 in
theorem yStripe_any (w : World) (m : Int) (hm : -9223372036854775808 ≤ m ∧ m ≤ 9223372036854775807) : Calls Try.prog 18 #[.int .i64 m] w fun e w' => e = .returned (speV (speM m)) ∧ Keeps [] w w' := by
  go_enter Try.func18, Try.ntmps18
  go_wp2_with fail
  refine bodyPost_ret (spe_ret (s := speM m) rfl rfl (range_cells (heap_alloc_new w _))) rfl ?_
  exact ⟨rfl, (Keeps.refl [] w).alloc _⟩
set_option maxHeartbeats 3200000 in
theorem yServers_any (w : World) (m : Int) : Calls Try.prog 35 #[.int .i64 m] w fun e w' => e = .returned (.int .i64 (3 + m % 14)) ∧ w = w' := by
  obtain ⟨b0, b1⟩ := tmod_b m (n := 14) (by decide)
  have c0 : 0 ≤ m % 14 := Int.emod_nonneg _ (by decide)
  have c1 : m % 14 < 14 := Int.emod_lt_of_pos _ (by decide)
  have E1 := hid (mod_once m (n := 14) (by decide))
  generalize hx : m.tmod 14 = x at *
  go_enter Try.func35, Try.ntmps35
  go_wp2_with fail
  go_ret
  exact ⟨ret_int (by have := E1.out; omega), rfl⟩
end Go.Proofs.Ytoglcohdanpciaa
