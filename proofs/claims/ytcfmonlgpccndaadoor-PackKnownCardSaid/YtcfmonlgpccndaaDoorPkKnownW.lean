/- pack: the walk of the law PackKnown. -/
import Derived.Test.YtcfmonlgpccndaaDoorPkJ
namespace Go.Proofs.YtcfmonlgpccndaaDoor
open Go.RowKit Go.Shelf
set_option maxRecDepth 100000
set_option linter.unusedSimpArgs false
set_option linter.unusedVariables false

theorem kn14_a : packL 2 3 (speM 1) 2 [] = ([], [], 1) := by kernel_rfl
theorem kn14_b : packL 2 64 (speM 1) 3 [⟨1, [1]⟩] = ([], [], 1) := by kernel_rfl
theorem kn14_c : packL 2 5 (speM 1) 3 [⟨0, []⟩] = ([], [⟨1, 2, 0, 5, pZ, pZ⟩, cutD 2 5], 0) := by kernel_rfl
theorem kn14_t : trimL [0, 0] = [] := by decide
theorem DsAt.nil14 (w : World) : DsAt w (.slice none 0 0) [] := ⟨none, 0, rfl, by simp, by simp, fun _ => rfl, fun h => absurd rfl h⟩
theorem buildPtZ14 (w : World) : (Instr.build 36 #[]).run Tryd.prog w = .ok (ptV pZ) w := by kernel_rfl
theorem exec_buildPtZ14 {ρ : Operand → Value} {o : Oper} {w : World} (ho : o.op = .build 36 #[]) : (execOp ρ o).run Tryd.prog w = .ok (.value (ptV pZ)) w := by
  simp only [execOp, ho, List.map_toArray, List.map_nil, Sem.run_bind, buildPtZ14, Result.andThen_ok, Sem.run_pure]
set_option maxHeartbeats 12800000 in
theorem pKnown_any (w : World) : Calls Tryd.prog 3 #[] w fun e w' => e = .returned (.bool true) ∧ Keeps [] w w' := by
  have AW := hid (pAwake_any w)
  go_enter Tryd.func3, Tryd.ntmps3
  go_wp2_with fail
  refine AW.out.mono ?_
  rintro e w1 ⟨rfl, k1⟩
  have K1 := hid k1
  have A1 := hid (yStripe_any w1 1 (by decide))
  clear k1
  go_wp2_with fail
  refine A1.out.mono ?_
  rintro e w2 ⟨rfl, k2⟩
  have K2 := hid (K1.out.trans k2)
  have HP0 := pPack_any w2 2 3 (speM 1) 2 _ _ (DsAt.nil14 w2)
  rw [show dbs [] = [] from rfl, kn14_a] at HP0
  have HP := hid HP0
  unfold speV
  clear k2 HP0
  go_wp2_with fail
  refine HP.out.mono ?_
  rintro e w3 ⟨va, vd, rfl, f3, d3, k3⟩
  have K3 := hid (K2.out.trans k3)
  have A3 := hid (yStripe_any w3 1 (by decide))
  clear f3 d3 k3
  go_wp2_with fail
  refine A3.out.mono ?_
  rintro e w4 ⟨rfl, k4⟩
  unfold speV
  obtain ⟨w5, hw5⟩ : ∃ x, x = (w4.alloc (.cells #[.int .u8 1] 5)).alloc (.cells #[.int .i64 1, .slice (some ⟨w4.heap.size, 0, none⟩) 1 1] 33) := ⟨_, rfl⟩
  have d5 := one_dt _ 1 _ 1 1 _ (row_alloc14 w4 [1] (by decide) (by decide)) (by decide)
  rw [show (w4.alloc (.cells (List.map (Value.int .u8) [1]).toArray 5)).alloc (.cells #[.int .i64 1, .slice (some ⟨w4.heap.size, 0, none⟩) 1 1] 33) = w5 by rw [hw5]; rfl, World.size_alloc] at d5
  have k5 : Keeps [] w w5 := by rw [hw5]; exact ((K3.out.trans k4).alloc _).alloc _
  have HP0 := pPack_any w5 2 64 (speM 1) 3 _ _ d5
  rw [show dbs [⟨1, .slice (some ⟨w4.heap.size, 0, none⟩) 1 1, [1]⟩] = [⟨1, [1]⟩] from rfl, kn14_b] at HP0
  have HP5 := hid HP0
  have HW5 := hid hw5
  have K5 := hid k5
  clear hw5 d5 k5 HP0 k4
  go_wp2_with fail
  rw [← HW5.out]
  refine HP5.out.mono ?_
  rintro e w6 ⟨vb, ve, rfl, f6, d6, k6⟩
  have K6 := hid (K5.out.trans k6)
  have A6 := hid (yStripe_any w6 1 (by decide))
  clear f6 d6 k6
  go_wp2_with fail
  refine A6.out.mono ?_
  rintro e w7 ⟨rfl, k7⟩
  unfold speV
  obtain ⟨w8, hw8⟩ : ∃ x, x = w7.alloc (.cells #[.int .i64 0, .slice none 0 0] 33) := ⟨_, rfl⟩
  have d8 := one_dt w7 0 none 0 0 [] (RowAt.nil w7) (by decide)
  rw [← hw8] at d8
  have k8 : Keeps [] w w8 := by rw [hw8]; exact (K6.out.trans k7).alloc _
  have HP0 := pPack_any w8 2 5 (speM 1) 3 _ _ d8
  rw [show dbs [⟨0, .slice none 0 0, []⟩] = [⟨0, []⟩] from rfl, kn14_c] at HP0
  have HP8 := hid HP0
  have HW8 := hid hw8
  have K8 := hid k8
  clear hw8 d8 k8 HP0 k7
  go_wp2_with (first | (refine wpList_is rfl _ _ (exec_buildDt1 _ rfl _ rfl) ?_) | (refine wpList_is rfl _ _ (exec_oneDt _ _ _ _ _ rfl rfl) ?_) | fail)
  rw [← HW8.out]
  refine HP8.out.mono ?_
  rintro e w9 ⟨vf, vg, rfl, f9, d9, k9⟩
  simp only at f9 d9
  obtain ⟨ad, cd, rfl⟩ := d9.shape
  obtain ⟨gd, od, rfl, hd, D0⟩ := d9.at 0 (by decide)
  have P0 : w9.rangeAt gd (od + 4) pZ.cells := fun j u hu => by
    have := D0 (4 + j) u (by
      rcases j with _ | _ | _ | _ | _ | j <;> simp [Pt.cells] at hu <;> subst hu <;> rfl)
    rw [Nat.zero_mul, Nat.add_zero, ← Nat.add_assoc] at this
    exact this
  have HP9 := hid P0
  have K9 := hid (K8.out.trans k9)
  have TR := pTrim_any (w9.alloc (.cells #[.int .u8 0, .int .u8 0] 5)) _ [0, 0] (row_alloc14 w9 [0, 0] (by decide) (by decide)) (by decide)
  rw [kn14_t] at TR
  have HTR := hid TR
  have K10 := hid (K9.out.alloc (.cells #[.int .u8 0, .int .u8 0] 5))
  simp only [List.length_cons, List.length_nil, Nat.zero_add] at *
  clear f9 d9 D0 P0 k9 TR
  go_wp2_with (first | (refine wpList_isW rfl _ _ (exec_load _ _ _ _ rfl rfl (pt_loaded _ gd (od + 4) pZ HP9.out)) ?_) | (refine wpList_isW rfl _ _ (exec_buildPtZ14 rfl) ?_) | (refine wpList_isW rfl _ _ ((exec_eqPts _ _ _ pZ pZ rfl rfl rfl).trans (by rw [eqP_is.2 rfl])) ?_) | fail)
  refine HTR.out.mono ?_
  rintro e w11 ⟨at', ct', rfl, r11, n11, k11⟩
  have K11 := hid (K10.out.trans k11)
  clear r11 n11 k11
  simp only [List.length_nil]
  go_wp2_with fail
  go_ret
  exact ⟨rfl, K11.out⟩
end Go.Proofs.YtcfmonlgpccndaaDoor
