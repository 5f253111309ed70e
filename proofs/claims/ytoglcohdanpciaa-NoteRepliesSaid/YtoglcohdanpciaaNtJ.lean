/- note: the laws' awake; NoteKnown's walk. -/
import Derived.Test.YtoglcohdanpciaaNtI
namespace Go.Proofs.Ytoglcohdanpciaa
open Go.RowKit Go.Shelf
set_option maxRecDepth 100000
set_option linter.unusedSimpArgs false
set_option linter.unusedVariables false

theorem all_one {cs : List Value} (h : ∀ u ∈ cs, u.oneCell' = true) : cs.toArray.all (·.oneCell') = true := by
  rw [Array.all_eq_true_iff_forall_mem]
  intro u hu
  exact h u (by simpa using hu)
def rqA : Rq := ⟨0, 0, 0, 1, ⟨#[47, 97]⟩, ⟨#[]⟩, false, false, false, 0, 0, 0, [], []⟩
def rpB : Rp := ⟨8, 0, 0, 0, 0, false, [], []⟩
theorem bldA (w : World) : (Instr.build 82 #[(1, .int .i64 1), (2, .string ⟨#[47, 97]⟩)]).run Try.prog w = .ok (rqV rqA (.slice none 0 0) (.slice none 0 0)) w := by kernel_rfl
theorem bldB (w : World) : (Instr.build 73 #[(0, .int .i64 8)]).run Try.prog w = .ok (rpV rpB (.slice none 0 0) (.slice none 0 0)) w := by kernel_rfl
theorem bldZ (w : World) : (Instr.build 82 #[]).run Try.prog w = .ok (rqV rqZ (.slice none 0 0) (.slice none 0 0)) w := by kernel_rfl
theorem exec_bldA {ρ : Operand → Value} {o : Oper} {w : World} (x y : Operand) (ho : o.op = .build 82 #[(1, x), (2, y)]) (hx : ρ x = .int .i64 1) (hy : ρ y = .string ⟨#[47, 97]⟩) : (execOp ρ o).run Try.prog w = .ok (.value (rqV rqA (.slice none 0 0) (.slice none 0 0))) w := by
  simp only [execOp, ho, List.map_toArray, List.map_cons, List.map_nil, hx, hy, Sem.run_bind, bldA, Result.andThen_ok, Sem.run_pure]
theorem exec_bldB {ρ : Operand → Value} {o : Oper} {w : World} (x : Operand) (ho : o.op = .build 73 #[(0, x)]) (hx : ρ x = .int .i64 8) : (execOp ρ o).run Try.prog w = .ok (.value (rpV rpB (.slice none 0 0) (.slice none 0 0))) w := by
  simp only [execOp, ho, List.map_toArray, List.map_cons, List.map_nil, hx, Sem.run_bind, bldB, Result.andThen_ok, Sem.run_pure]
theorem exec_bldZ {ρ : Operand → Value} {o : Oper} {w : World} (ho : o.op = .build 82 #[]) : (execOp ρ o).run Try.prog w = .ok (.value (rqV rqZ (.slice none 0 0) (.slice none 0 0))) w := by
  simp only [execOp, ho, List.map_toArray, List.map_nil, Sem.run_bind, bldZ, Result.andThen_ok, Sem.run_pure]
theorem encA : (encQ rqA).2 = 0 := by decide +kernel
theorem encB : (encP rpB).2 = 0 := by decide +kernel
theorem encZ : encQ rqZ = ([], 1) := by decide +kernel
theorem decTwo : decW rqC [1, 2] = 2 := by decide +kernel
theorem decOne : decW rpC [99] = 4 := by decide +kernel
theorem dls_nilN (w : World) : DlsAt w (.slice none 0 0) [] := ⟨none, 0, rfl, by simp, by simp, fun _ => rfl, fun h => absurd rfl h⟩
theorem fits_row {w : World} {v : Value} {zs : List Int} (h : RowAt w v zs) : zs.length ≤ maxLen := by
  obtain ⟨a, c, _, h1, h2, _⟩ := h
  omega
theorem lenA : (encQ rqA).1.length ≤ 35184372088832 := by decide +kernel
theorem lenB : (encP rpB).1.length ≤ 35184372088832 := by decide +kernel
theorem rtA : decW rqC (encQ rqA).1 = 0 ∧ (rqC.g ((encQ rqA).1, 0)).1 = rqA := by
  obtain ⟨h1, h2⟩ := encQ_ok encA
  rw [h1]
  exact dec_b rqC_ok h2
theorem rtB : decW rpC (encP rpB).1 = 0 ∧ (rpC.g ((encP rpB).1, 0)).1 = rpB := by
  obtain ⟨h1, h2⟩ := encP_ok encB (by decide)
  rw [h1]
  exact dec_b rpC_ok h2
def PBn (w : World) (b : Bool) (e : Ending) (w' : World) : Prop := e = .returned (.bool b) ∧ Keeps [] w w'
set_option maxHeartbeats 12800000 in
theorem awake16_any (w : World) : Calls Try.prog 36 #[] w (PBn w true) := by
  go_enter Try.func36, Try.ntmps36
  go_wp2_with (first | (refine wpList_is rfl _ _ (exec_bldA _ _ rfl rfl rfl) ?_) | fail)
  refine (ntEnc_any w rqA (.slice none 0 0) (.slice none 0 0) (LsAt.nil _ _) (dls_nilN _) (by decide) (by decide)).mono ?_
  rintro e w1 ⟨k1, a, c, rfl, r1, n1⟩
  have RT := hid rtA
  have LA := hid lenA
  have EA := encA
  obtain ⟨bs, hbs⟩ : ∃ z, z = (encQ rqA).1 := ⟨_, rfl⟩
  rw [← hbs] at RT LA r1 ⊢
  rw [EA]
  have R1 := hid r1
  have K1 := hid k1
  clear r1 k1 n1 hbs EA
  go_wp2_with fail
  refine (decQ_any w1 _ bs R1.out LA.out).mono ?_
  rw [RT.out.1, RT.out.2]
  rintro e w2 ⟨k2, ⟨_, vs, vd, rfl, ow⟩ | ⟨hy, _⟩⟩
  case inr => exact absurd rfl hy
  have K2 := hid (K1.out.trans k2)
  have OW := hid ow
  clear k2 ow
  have RR := hid (krange_new w2 (rqA.cells vs vd) 82)
  have KZ := hid (K2.out.alloc (.cells (rqA.cells vs vd).toArray 82))
  go_wp2_with (first | (refine wpList_is rfl _ _ (exec_alloc 82 (rqZ.cells (.slice none 0 0) (.slice none 0 0)).toArray iReq rfl) ?_) | (refine wpList_noval rfl _ (exec_storeNew 82 _ _ rfl w2 (rqZ.cells (.slice none 0 0) (.slice none 0 0)).toArray (rqA.cells vs vd).toArray rfl rfl rfl iReq rfl (all_one OW.out.one)) ?_; refine Hid.out ?_) | fail)
  refine hid ?_
  generalize w2.alloc (.cells (rqA.cells vs vd).toArray 82) = w3 at RR KZ ⊢
  have c3 : w3.cell? ⟨w2.heap.size, 3, none⟩ = some (.int .i64 1) := ask_cell RR.out rfl
  have c4 : w3.cell? ⟨w2.heap.size, 4, none⟩ = some (.string ⟨#[47, 97]⟩) := ask_cell RR.out rfl
  go_wp2_with fail
  go_ret
  exact ⟨rfl, KZ.out⟩
set_option maxHeartbeats 12800000 in
theorem known16_any (w : World) : Calls Try.prog 11 #[] w (PBn w true) := by
  go_enter Try.func11, Try.ntmps11
  go_wp2_with fail
  refine (awake16_any w).mono ?_
  rintro e w0 ⟨rfl, k0⟩
  have K0 := hid k0
  clear k0
  go_wp2_with (first | (refine wpList_is rfl _ _ (exec_bldB _ rfl rfl) ?_) | fail)
  refine (ntEncR_any w0 rpB (.slice none 0 0) (.slice none 0 0) (LsAt.nil _ _) (RowAt.nil _) (by decide) (by intro x hx; cases hx)).mono ?_
  rintro e w1 ⟨k1, a, c, rfl, r1, n1⟩
  have RT := hid rtB
  have LA := hid lenB
  have EA := encB
  obtain ⟨bs, hbs⟩ : ∃ z, z = (encP rpB).1 := ⟨_, rfl⟩
  rw [← hbs] at RT LA r1 ⊢
  rw [EA]
  have R1 := hid r1
  have K1 := hid (K0.out.trans k1)
  clear r1 k1 n1 hbs EA
  go_wp2_with fail
  refine (decP_any w1 _ bs R1.out LA.out).mono ?_
  rw [RT.out.1, RT.out.2]
  rintro e w2 ⟨k2, ⟨_, vs, vd, rfl, ow⟩ | ⟨hy, _⟩⟩
  case inr => exact absurd rfl hy
  have K2 := hid (K1.out.trans k2)
  obtain ⟨_, am, cm, rfl, _, _⟩ := id ow
  have OW := hid ow
  clear k2 ow
  have RR := hid (krange_new w2 (rpB.cells vs (.slice am rpB.mp.length cm)) 73)
  have KZ := hid (K2.out.alloc (.cells (rpB.cells vs (.slice am rpB.mp.length cm)).toArray 73))
  have LT := hid (show w2.heap.size < (w2.alloc (.cells (rpB.cells vs (.slice am rpB.mp.length cm)).toArray 73)).heap.size by simp)
  go_wp2_with (first | (refine wpList_is rfl _ _ (exec_alloc 73 (rpZ.cells (.slice none 0 0) (.slice none 0 0)).toArray iRep rfl) ?_) | (refine wpList_noval rfl _ (exec_storeNew 73 _ _ rfl w2 (rpZ.cells (.slice none 0 0) (.slice none 0 0)).toArray (rpB.cells vs (.slice am rpB.mp.length cm)).toArray rfl rfl rfl iRep rfl (all_one OW.out.one)) ?_; refine Hid.out ?_) | fail)
  refine hid ?_
  generalize w2.alloc (.cells (rpB.cells vs (.slice am rpB.mp.length cm)).toArray 73) = w3 at RR KZ LT ⊢
  generalize w2.heap.size = b3 at RR LT ⊢
  go_wp2_with (first | (refine wpList_is rfl _ _ (exec_bldZ rfl) ?_) | fail)
  refine (ntEnc_any w3 rqZ (.slice none 0 0) (.slice none 0 0) (LsAt.nil _ _) (dls_nilN _) (by decide) (by decide)).mono ?_
  rw [encZ]
  rintro e w4 ⟨k4, a4, c4, rfl, r4, n4⟩
  have K4 := hid (KZ.out.trans k4)
  have R4 := hid (krange_keep RR.out k4 (by simp))
  have LT4 := hid (Nat.lt_of_lt_of_le LT.out k4.size)
  clear k4 r4 n4
  have ka := (Keeps.refl [] w4).alloc (.cells #[.int .u8 1, .int .u8 2] 5)
  have X5 := hid (row_lit (w := w4) [1, 2] 5 (by intro z hz; simp at hz; omega) 2 rfl (by decide))
  have K5 := hid (K4.out.trans ka)
  have R5 := hid (krange_keep R4.out ka (by simp))
  have LT5 := hid (Nat.lt_of_lt_of_le LT4.out ka.size)
  clear ka
  go_wp2_with (first | (go_at_call 40; refine Hid.out ?_) | fail)
  refine hid ?_
  change Calls _ _ _ (w4.alloc (.cells ([1, 2].map (Value.int .u8)).toArray 5)) _
  refine (decQ_any _ _ [1, 2] X5.out (by decide)).mono ?_
  rw [decTwo]
  rintro e w6 ⟨k6, ⟨hy, _⟩ | ⟨_, rfl⟩⟩
  case inl => exact absurd hy (by decide)
  have kb := (Keeps.refl [] w6).alloc (.cells (rqZ.cells (.slice none 0 0) (.slice none 0 0)).toArray 82)
  have K7 := hid ((K5.out.trans k6).trans kb)
  have R7 := hid (krange_keep R5.out (k6.trans kb) (by simp))
  have LT7 := hid (Nat.lt_of_lt_of_le LT5.out (k6.trans kb).size)
  clear kb k6 K5 R5 LT5 X5
  go_wp2_with (first | (refine wpList_is rfl _ _ (exec_alloc 82 (rqZ.cells (.slice none 0 0) (.slice none 0 0)).toArray iReq rfl) ?_) | (refine wpList_noval rfl _ (exec_storeNew 82 _ _ rfl w6 (rqZ.cells (.slice none 0 0) (.slice none 0 0)).toArray (rqZ.cells (.slice none 0 0) (.slice none 0 0)).toArray rfl rfl rfl iReq rfl (all_one (one_rq _ _ _ _ _ _ _))) ?_; refine Hid.out ?_) | fail)
  refine hid ?_
  generalize w6.alloc (.cells (rqZ.cells (.slice none 0 0) (.slice none 0 0)).toArray 82) = w7 at K7 R7 LT7 ⊢
  have ka := (Keeps.refl [] w7).alloc (.cells #[.int .u8 99] 5)
  have X8 := hid (row_lit (w := w7) [99] 5 (by intro z hz; simp at hz; omega) 1 rfl (by decide))
  have K8 := hid (K7.out.trans ka)
  have R8 := hid (krange_keep R7.out ka (by simp))
  have LT8 := hid (Nat.lt_of_lt_of_le LT7.out ka.size)
  clear ka
  go_wp2_with (first | (go_at_call 38; refine Hid.out ?_) | fail)
  refine hid ?_
  change Calls _ _ _ (w7.alloc (.cells ([99].map (Value.int .u8)).toArray 5)) _
  refine (decP_any _ _ [99] X8.out (by decide)).mono ?_
  rw [decOne]
  rintro e w9 ⟨k9, ⟨hy, _⟩ | ⟨_, rfl⟩⟩
  case inl => exact absurd hy (by decide)
  have kb := (Keeps.refl [] w9).alloc (.cells (rpZ.cells (.slice none 0 0) (.slice none 0 0)).toArray 73)
  have KA := hid ((K8.out.trans k9).trans kb)
  have RA := hid (krange_keep R8.out (k9.trans kb) (by simp))
  have LTA := hid (Nat.lt_of_lt_of_le LT8.out (k9.trans kb).size)
  clear kb k9 K8 R8 LT8 X8
  go_wp2_with (first | (refine wpList_is rfl _ _ (exec_alloc 73 (rpZ.cells (.slice none 0 0) (.slice none 0 0)).toArray iRep rfl) ?_) | (refine wpList_noval rfl _ (exec_storeNew 73 _ _ rfl w9 (rpZ.cells (.slice none 0 0) (.slice none 0 0)).toArray (rpZ.cells (.slice none 0 0) (.slice none 0 0)).toArray rfl rfl rfl iRep rfl (all_one (one_rp _ _ _ _ _ _ _))) ?_; refine Hid.out ?_) | fail)
  refine hid ?_
  generalize w9.alloc (.cells (rpZ.cells (.slice none 0 0) (.slice none 0 0)).toArray 73) = wA at KA RA LTA ⊢
  have c0 : wA.cell? ⟨b3, 0, none⟩ = some (.int .i64 8) := ask_cell RA.out rfl
  have c1 : wA.cell? ⟨b3, 1, none⟩ = some (.int .i64 0) := ask_cell RA.out rfl
  have c7 : wA.cell? ⟨b3, 7, none⟩ = some (.slice am 0 cm) := ask_cell RA.out rfl
  go_wp2_with fail
  go_ret
  exact ⟨rfl, KA.out⟩
end Go.Proofs.Ytoglcohdanpciaa
