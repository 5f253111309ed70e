/- layout: the walk of the law LayoutKnown. -/
import Derived.Test.YtoglcohdanpciaaLyJ6
namespace Go.Proofs.Ytoglcohdanpciaa
open Go.RowKit Go.Shelf
set_option maxRecDepth 100000
set_option linter.unusedSimpArgs false
set_option linter.unusedVariables false

theorem kn13_span : spanL 3 4 10 4 = (0, 1, 0) := by decide
theorem kn13_cut : cutL (speM 1) [] 2 = ([], 1) := by decide
theorem kn13_read : readL [1] = (hZ13, [], 2) := readL_short (by decide)
theorem kn13_each : eachI 10 4 = 4 := by decide
theorem kn13_place : placeI ⟨1, 0, 5⟩ 2 4 = 0 := by decide
theorem buildSpe5 (w : World) : (Instr.build 30 #[(0, .int .i64 1), (2, .int .i64 5)]).run Try.prog w = .ok (speV ⟨1, 0, 5⟩) w := by kernel_rfl
theorem exec_buildSpe5 {ρ : Operand → Value} {o : Oper} {w : World} (hc : ∀ v, ρ (.const v) = v) (ho : o.op = .build 30 #[(0, .const (.int .i64 1)), (2, .const (.int .i64 5))]) : (execOp ρ o).run Try.prog w = .ok (.value (speV ⟨1, 0, 5⟩)) w := by
  simp only [execOp, ho, List.map_toArray, List.map_cons, List.map_nil, hc, Sem.run_bind, buildSpe5, Result.andThen_ok, Sem.run_pure]
set_option maxHeartbeats 12800000 in
theorem yKnown_any (w : World) : Calls Try.prog 3 #[] w fun e w' => e = .returned (.bool true) ∧ Keeps [] w w' := by
  have A1 := hid (yAwake_any w)
  go_enter Try.func3, Try.ntmps3
  go_wp2_with fail
  refine A1.out.mono ?_
  rintro e w1 ⟨rfl, k1⟩
  have K1 := hid k1
  have SP0 := lspan_any w1 3 4 10 4 (by decide) (by decide)
  rw [kn13_span] at SP0
  have SP := hid SP0
  clear k1 SP0
  go_wp2_with fail
  refine SP.out.mono ?_
  unfold SpanPost
  simp only
  rintro e w2 ⟨rfl, k2⟩
  have K2 := hid (K1.out.trans k2)
  have A2 := hid (yStripe_any w2 1 (by decide))
  clear k2
  go_wp2_with fail
  refine A2.out.mono ?_
  rintro e w3 ⟨rfl, k3⟩
  have K3 := hid (K2.out.trans k3)
  unfold speV
  have HC0 := lCut_any w3 (speM 1) _ [] 2 (RowAt.nil _) (by decide)
  rw [kn13_cut] at HC0
  have HC := hid HC0
  clear k3 HC0
  go_wp2_with fail
  refine HC.out.mono ?_
  rintro e w4 ⟨k4, hx⟩
  rcases hx with ⟨-, -, rfl⟩ | ⟨h0, _⟩
  case inr => exact absurd h0 (by decide)
  have K4 := hid (K3.out.trans k4)
  have KB := hid ((Keeps.refl [] w4).alloc (.cells #[.int .u8 1] 5))
  have HR0 := lRead_any (w4.alloc (.cells #[.int .u8 1] 5)) _ [1] (row_alloc13 w4 [1] (by decide) (by decide)) (by decide)
  rw [kn13_read] at HR0
  have HR := hid HR0
  clear k4 HR0
  go_wp2_with fail
  refine HR.out.mono ?_
  unfold ReadPost13 hdV13 hZ13
  simp only
  rintro e w5 ⟨k5, a5, c5, rfl, -, -⟩
  have K5 := hid ((K4.out.trans KB.out).trans k5)
  clear k5
  go_wp2_with fail
  have KC := hid ((Keeps.refl [] w5).alloc (.cells #[.int .i64 0, .int .i64 0, .int .i64 0, .int .i64 0, .int .i64 0, .int .i64 0] 33))
  have HE := leach_as (w5.alloc (.cells #[.int .i64 0, .int .i64 0, .int .i64 0, .int .i64 0, .int .i64 0, .int .i64 0] 33)) 10 4 (by decide)
  rw [kn13_each] at HE
  refine HE.mono ?_
  clear HE
  rintro e w6 ⟨rfl, rfl⟩
  have HP0 := fun W => lplace_any W ⟨1, 0, 5⟩ 2 4
  rw [kn13_place] at HP0
  have HP := hid HP0
  clear HP0
  go_wp2_with (first | (refine wpList_is rfl _ _ (exec_buildSpe5 (fun _ => rfl) rfl) ?_) | fail)
  refine (HP.out _).mono ?_
  rintro e w7 ⟨rfl, k7⟩
  have K7 := hid ((K5.out.trans KC.out).trans k7)
  clear k7
  go_wp2_with fail
  go_ret
  exact ⟨rfl, K7.out⟩
end Go.Proofs.Ytoglcohdanpciaa
