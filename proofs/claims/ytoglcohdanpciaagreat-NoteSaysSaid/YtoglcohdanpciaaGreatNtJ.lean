/- note: the laws' awake; NoteKnown's walk. -/
import Derived.Test.YtoglcohdanpciaaGreatNtI
namespace Go.Proofs.YtoglcohdanpciaaGreat
open Go.RowKit Go.Shelf
set_option maxRecDepth 100000
set_option linter.unusedSimpArgs false
set_option linter.unusedVariables false

theorem all_one {cs : List Value} (h : ∀ u ∈ cs, u.oneCell' = true) : cs.toArray.all (·.oneCell') = true := by
  rw [Array.all_eq_true_iff_forall_mem]
  intro u hu
  exact h u (by simpa using hu)
def rqA : Rq := ⟨0, 0, 0, 1, ⟨#[47, 97]⟩, ⟨#[]⟩, false, false, false, 0, 0, 0, [], []⟩
def rpB : Rp := ⟨8, 0, 0, 0, 0, false, [], []⟩
theorem bldA (w : World) : (Instr.build 51 #[(1, .int .i64 1), (2, .string ⟨#[47, 97]⟩)]).run Tryz.prog w = .ok (rqV rqA (.slice none 0 0) (.slice none 0 0)) w := by kernel_rfl
theorem bldB (w : World) : (Instr.build 33 #[(0, .int .i64 8)]).run Tryz.prog w = .ok (rpV rpB (.slice none 0 0) (.slice none 0 0)) w := by kernel_rfl
theorem bldZ (w : World) : (Instr.build 51 #[]).run Tryz.prog w = .ok (rqV rqZ (.slice none 0 0) (.slice none 0 0)) w := by kernel_rfl
theorem exec_bldA {ρ : Operand → Value} {o : Oper} {w : World} (x y : Operand) (ho : o.op = .build 51 #[(1, x), (2, y)]) (hx : ρ x = .int .i64 1) (hy : ρ y = .string ⟨#[47, 97]⟩) : (execOp ρ o).run Tryz.prog w = .ok (.value (rqV rqA (.slice none 0 0) (.slice none 0 0))) w := by
  simp only [execOp, ho, List.map_toArray, List.map_cons, List.map_nil, hx, hy, Sem.run_bind, bldA, Result.andThen_ok, Sem.run_pure]
theorem exec_bldB {ρ : Operand → Value} {o : Oper} {w : World} (x : Operand) (ho : o.op = .build 33 #[(0, x)]) (hx : ρ x = .int .i64 8) : (execOp ρ o).run Tryz.prog w = .ok (.value (rpV rpB (.slice none 0 0) (.slice none 0 0))) w := by
  simp only [execOp, ho, List.map_toArray, List.map_cons, List.map_nil, hx, Sem.run_bind, bldB, Result.andThen_ok, Sem.run_pure]
theorem exec_bldZ {ρ : Operand → Value} {o : Oper} {w : World} (ho : o.op = .build 51 #[]) : (execOp ρ o).run Tryz.prog w = .ok (.value (rqV rqZ (.slice none 0 0) (.slice none 0 0))) w := by
  simp only [execOp, ho, List.map_toArray, List.map_nil, Sem.run_bind, bldZ, Result.andThen_ok, Sem.run_pure]
theorem encA : (encQ rqA).2 = 0 := by decide +kernel
theorem encB : (encP rpB).2 = 0 := by decide +kernel
theorem encZ : encQ rqZ = ([], 1) := by decide +kernel
theorem decTwo : decW rqC [1, 2] = 2 := by decide +kernel
theorem decOne : decW rpC [99] = 4 := by decide +kernel
theorem dls_nilN (w : World) : DlsAt w (.slice none 0 0) [] := ⟨none, 0, rfl, by simp, by simp, fun _ => rfl, fun h => absurd rfl h⟩
theorem fits_row {w : World} {v : Value} {zs : List Int} (h : RowAt w v zs) : zs.length ≤ maxLen := by
  obtain ⟨a, c, _, h1, h2, _⟩ := h
  omega
theorem lenA : (encQ rqA).1.length ≤ 35184372088832 := by decide +kernel
theorem lenB : (encP rpB).1.length ≤ 35184372088832 := by decide +kernel
theorem rtA : decW rqC (encQ rqA).1 = 0 ∧ (rqC.g ((encQ rqA).1, 0)).1 = rqA := by
  obtain ⟨h1, h2⟩ := encQ_ok encA
  rw [h1]
  exact dec_b rqC_ok h2
theorem rtB : decW rpC (encP rpB).1 = 0 ∧ (rpC.g ((encP rpB).1, 0)).1 = rpB := by
  obtain ⟨h1, h2⟩ := encP_ok encB (by decide)
  rw [h1]
  exact dec_b rpC_ok h2
def PBn (w : World) (b : Bool) (e : Ending) (w' : World) : Prop := e = .returned (.bool b) ∧ Keeps [] w w'
set_option maxHeartbeats 12800000 in
theorem awake16_any (w : World) : Calls Tryz.prog 4 #[] w (PBn w true) := by
  go_enter Tryz.func4, Tryz.ntmps4
  go_wp2_with (first | (refine wpList_is rfl _ _ (exec_bldA _ _ rfl rfl rfl) ?_) | fail)
  refine (ntEnc_any w rqA (.slice none 0 0) (.slice none 0 0) (LsAt.nil _ _) (dls_nilN _) (by decide) (by decide)).mono ?_
  rintro e w1 ⟨k1, a, c, rfl, r1, n1⟩
  have RT := hid rtA
  have LA := hid lenA
  have EA := encA
  obtain ⟨bs, hbs⟩ : ∃ z, z = (encQ rqA).1 := ⟨_, rfl⟩
  rw [← hbs] at RT LA r1 ⊢
  rw [EA]
  have R1 := hid r1
  have K1 := hid k1
  clear r1 k1 n1 hbs EA
  go_wp2_with fail
  refine (decQ_any w1 _ bs R1.out LA.out).mono ?_
  rw [RT.out.1, RT.out.2]
  rintro e w2 ⟨k2, ⟨_, vs, vd, rfl, ow⟩ | ⟨hy, _⟩⟩
  case inr => exact absurd rfl hy
  have K2 := hid (K1.out.trans k2)
  have OW := hid ow
  clear k2 ow
  have RR := hid (krange_new w2 (rqA.cells vs vd) 51)
  have KZ := hid (K2.out.alloc (.cells (rqA.cells vs vd).toArray 51))
  go_wp2_with (first | (refine wpList_is rfl _ _ (exec_alloc 51 (rqZ.cells (.slice none 0 0) (.slice none 0 0)).toArray iReq rfl) ?_) | (refine wpList_noval rfl _ (exec_storeNew 51 _ _ rfl w2 (rqZ.cells (.slice none 0 0) (.slice none 0 0)).toArray (rqA.cells vs vd).toArray rfl rfl rfl iReq rfl (all_one OW.out.one)) ?_; refine Hid.out ?_) | fail)
  refine hid ?_
  generalize w2.alloc (.cells (rqA.cells vs vd).toArray 51) = w3 at RR KZ ⊢
  have c3 : w3.cell? ⟨w2.heap.size, 3, none⟩ = some (.int .i64 1) := ask_cell RR.out rfl
  have c4 : w3.cell? ⟨w2.heap.size, 4, none⟩ = some (.string ⟨#[47, 97]⟩) := ask_cell RR.out rfl
  go_wp2_with fail
  go_ret
  exact ⟨rfl, KZ.out⟩
end Go.Proofs.YtoglcohdanpciaaGreat
