/- delta: the walk of the law DeltaKnown. -/
import Derived.Test.YtamcllcjondcpaaDeJb
namespace Go.Proofs.Ytamcllcjondcpaa
open Go.RowKit Go.Shelf
set_option maxRecDepth 100000
set_option linter.unusedSimpArgs false

def kn9 : Dl := ⟨9, 0, 0, 0, pZ, pZ⟩
theorem exec_buildD9 {ρ : Operand → Value} {o : Oper} {w : World} (hc : ∀ v, ρ (.const v) = v) (ho : o.op = .build 49 #[(0, .const (.int .i64 9))]) : (execOp ρ o).run Try.prog w = .ok (.value (dlV kn9)) w := by
  have h : (Instr.build 49 #[(0, .int .i64 9)]).run Try.prog w = .ok (dlV kn9) w := by kernel_rfl
  simp only [execOp, ho, List.map_toArray, List.map_cons, List.map_nil, hc, Sem.run_bind, h, Result.andThen_ok, Sem.run_pure]
theorem kn_enc : encL [kn9] = ([], 1) := by
  rw [(encL_is (ds := [kn9]) (by decide)).1, if_pos (by decide)]
theorem kn_d1 : (decL [0, 1, 2, 0, 1, 0, 0, 5]).2 = 4 := by decide
theorem kn_d2 : (decL [0, 1, 2]).2 = 2 := by decide
theorem kn_d3 : (decL [0, 0, 7]).2 = 3 := by decide
set_option maxHeartbeats 6400000 in
theorem m12Known_any (w : World) : Calls Try.prog 4 #[] w fun e w' => e = .returned (.bool true) ∧ Keeps [] w w' := by
  go_enter Try.func4, Try.ntmps4
  go_wp2_with fail
  refine (dAwake_any w).mono ?_
  rintro e w1 ⟨rfl, k1⟩
  have K1 := hid k1
  have HE0 := dEncode_any (w1.alloc (.cells kn9.cells.toArray 49)) _ [kn9] (one_dl w1 kn9)
  rw [kn_enc] at HE0
  have HE := hid HE0
  have KA := hid ((Keeps.refl [] w1).alloc (.cells kn9.cells.toArray 49))
  clear k1 HE0
  go_wp2_with (first | (refine wpList_is rfl _ _ (exec_buildD9 (fun _ => rfl) rfl) ?_) | (refine wpList_is rfl _ _ (exec_oneDl _ kn9 rfl rfl) ?_) | fail)
  refine HE.out.mono ?_
  rintro e w2 ⟨a2, c2, rfl, -, -, k2⟩
  have K2 := hid ((K1.out.trans KA.out).trans k2)
  have R2 := hid (row_alloc w2 [0, 1, 2, 0, 1, 0, 0, 5] (by decide) (by decide))
  have HD := hid (dDecode_any _ _ _ R2.out (by decide))
  have KB := hid ((Keeps.refl [] w2).alloc (.cells #[.int .u8 0, .int .u8 1, .int .u8 2, .int .u8 0, .int .u8 1, .int .u8 0, .int .u8 0, .int .u8 5] 5))
  clear k2 HE
  go_wp2_with fail
  refine HD.out.mono ?_
  rintro e w3 ⟨v3, rfl, d3, k3⟩
  rw [kn_d1]
  obtain ⟨a3, c3, rfl⟩ := d3.shape
  have K3 := hid ((K2.out.trans KB.out).trans k3)
  have R3 := hid (row_alloc w3 [0, 1, 2] (by decide) (by decide))
  have HD3 := hid (dDecode_any _ _ _ R3.out (by decide))
  have KC := hid ((Keeps.refl [] w3).alloc (.cells #[.int .u8 0, .int .u8 1, .int .u8 2] 5))
  clear k3 d3 HD
  generalize (decL [0, 1, 2, 0, 1, 0, 0, 5]).1.length = n3
  go_wp2_with fail
  refine HD3.out.mono ?_
  rintro e w4 ⟨v4, rfl, d4, k4⟩
  rw [kn_d2]
  obtain ⟨a4, c4, rfl⟩ := d4.shape
  have K4 := hid ((K3.out.trans KC.out).trans k4)
  have R4 := hid (row_alloc w4 [0, 0, 7] (by decide) (by decide))
  have HD4 := hid (dDecode_any _ _ _ R4.out (by decide))
  have KD := hid ((Keeps.refl [] w4).alloc (.cells #[.int .u8 0, .int .u8 0, .int .u8 7] 5))
  clear k4 d4 HD3
  generalize (decL [0, 1, 2]).1.length = n4
  go_wp2_with fail
  refine HD4.out.mono ?_
  rintro e w5 ⟨v5, rfl, d5, k5⟩
  rw [kn_d3]
  obtain ⟨a5, c5, rfl⟩ := d5.shape
  have K5 := hid ((K4.out.trans KD.out).trans k5)
  clear k5 d5 HD4
  generalize (decL [0, 0, 7]).1.length = n5
  go_wp2_with fail
  go_ret
  exact ⟨rfl, K5.out⟩
end Go.Proofs.Ytamcllcjondcpaa
