/- Chapter 4's example, and what is refused (the law DiskKnown): the law returns true. No condition. -/
import Derived.Test.YtodjkgifbocjdaaDkN
namespace Go.Proofs.Ytodjkgifbocjdaa
open Go.ChangeShapes Go.WideShapes Go.ChangeAt Go.RowKit

theorem loadBad_any (a : Option Addr) (len cap : Nat) (h : len % 64 ≠ 0) (hl : len ≤ 1000000000) (w : World) :
    Calls Try.prog 16 #[.slice a len cap] w fun e w' => e = .returned (.tuple #[.pointer none, .int .i64 4]) ∧ w = w' := by
  have ht : ((len : Int) % 64 == 0) = false := by
    have : (len : Int) % 64 ≠ 0 := by omega
    simpa using this
  go_enter Try.func16, Try.ntmps16
  go_wp2_with fail
  go_ret2
  exact ⟨rfl, rfl⟩

def kn1 : DS := ⟨2, fun _ => zrow, fun _ => zrow, [], 0, 0, false⟩
def kn2 : DS := ⟨2, fun _ => zrow, fun _ => zrow, [(0, R1)], 0, 0, true⟩
theorem kn0_f : writeS (blankS 2) 2 (secL 1) = blankS 2 := by
  have ht : ¬ (blankS 2).takes 2 (secL 1).length := by simp [DS.takes, blankS]
  simp only [writeS, if_neg ht]
theorem kn0_fe : writeE (blankS 2) 2 (secL 1).length = 1 := by
  have ht : ¬ (blankS 2).takes 2 (secL 1).length := by simp [DS.takes, blankS]
  simp only [writeE, if_neg ht]
  rfl
theorem kn0_g : writeS (blankS 2) 0 [] = blankS 2 := by
  have ht : ¬ (blankS 2).takes 0 ([] : List Int).length := by simp [DS.takes]
  simp only [writeS, if_neg ht]
theorem kn0_ge : writeE (blankS 2) 0 ([] : List Int).length = 1 := by
  have ht : ¬ (blankS 2).takes 0 ([] : List Int).length := by simp [DS.takes]
  simp only [writeE, if_neg ht]
  rfl
theorem kn1_is : fuseS (blankS 2) 0 = kn1 := rfl
theorem kn2_is : writeS kn1 0 (secL 1) = kn2 := by
  have ht : kn1.takes 0 (secL 1).length := by simp [DS.takes, kn1, secL_len]
  simp only [writeS, if_pos ht]
  rfl
theorem kn2_e : writeE kn1 0 (secL 1).length = 14 := by
  have ht : kn1.takes 0 (secL 1).length := by simp [DS.takes, kn1, secL_len]
  simp only [writeE, if_pos ht]
  rfl
theorem kn_a : readB (kn2.crashed []) 0 = secL 1 := by
  have : readB (kn2.crashed []) 0 = R1.1 := rfl
  rw [this]
  exact mkRow_sec (by omega)

set_option maxRecDepth 100000 in
set_option maxHeartbeats 8000000 in
theorem known4_any (w : World) : Calls Try.prog 3 #[] w fun e w' => e = .returned (.bool true) ∧ Keeps [] w w' := by
  have KA := hid kn_a
  have hmk : ∀ w, (Instr.makeSlice 28 (.int .i64 100) (.int .i64 100)).run Try.prog w = .ok (.slice (some ⟨w.heap.size, 0, none⟩) 100 100) (w.alloc (.cells (madeCells #[.int .u8 0] 100) 5)) := fun w =>
    run_make_row' (P := Try.prog) 28 5 (.int .u8 0) 1 Try.underlying28 info5 rfl .i64 .i64 100 (by omega) (by omega) w
  go_enter Try.func3, Try.ntmps3
  go_wp2_with fail
  refine (awake4_any w).mono ?_
  rintro e w0 ⟨rfl, k0⟩
  have K0 := hid k0
  clear k0
  go_wp2_with fail
  refine (newBad_any 1 (by omega) w0).mono ?_
  rintro e _ ⟨rfl, rfl⟩
  go_wp2_with fail
  refine (newAt_any 2 (by omega) (by omega) w0).mono ?_
  rintro e w1 ⟨p, F1, rfl, D1, l1, k1⟩
  have D1' := hid D1
  have L1 : Hid (∀ b ∈ F1, w.heap.size ≤ b) := fun b hb => by have := l1 b hb; have := K0.out.size; omega
  have K1 := hid (K0.out.trans k1)
  clear D1 l1 k1 K0
  go_wp2_with fail
  refine (sector_any 1 (by omega) (by omega) w1).mono ?_
  rintro e w2 ⟨_, rfl, r2, _, ⟨a1, b1, c1, rfl⟩, k2⟩
  have D2 := hid (D1'.out.keep k2 (by simp))
  have K2 := hid (K1.out.trans k2)
  have R2' := hid r2
  clear r2 k2 D1' K1
  go_wp2_with fail
  refine (write_any w2 p _ F1 0 D2.out (by omega) 2 _ _ R2'.out).mono ?_
  rw [kn0_f, kn0_fe]
  rintro e w3 ⟨rfl, F3, D3, k3, fr3⟩
  have D3' := hid D3
  have L3 : Hid (∀ b ∈ F3, w.heap.size ≤ b) := fun b hb => by
    rcases fr3 b hb with h | h
    · exact L1.out b h
    · have := K2.out.size; omega
  have K3 : Hid (Keeps [] w w3) := K2.out.trans' k3 (fun i hi hm => by have := L1.out i hm; omega)
  clear D3 k3 fr3 D2 K2 L1 R2'
  go_wp2_with fail
  refine (write_any w3 p _ F3 _ D3'.out (by omega) 0 _ _ (RowAt.nil w3)).mono ?_
  rw [kn0_g, kn0_ge]
  rintro e w4 ⟨rfl, F4, D4, k4, fr4⟩
  have D4' := hid D4
  have L4 : Hid (∀ b ∈ F4, w.heap.size ≤ b) := fun b hb => by
    rcases fr4 b hb with h | h
    · exact L3.out b h
    · have := K3.out.size; omega
  have K4 : Hid (Keeps [] w w4) := K3.out.trans' k4 (fun i hi hm => by have := L3.out i hm; omega)
  clear D4 k4 fr4 D3' K3 L3
  go_wp2_with fail
  refine (fuseAt_any w4 p _ F4 _ D4'.out 0 (by omega)).mono ?_
  rw [kn1_is]
  rintro e w5 ⟨rfl, D5, k5⟩
  have D5' := hid D5
  have K5 : Hid (Keeps [] w w5) := K4.out.trans' k5 (fun i hi hm => by have := L4.out i hm; omega)
  clear D5 k5 D4' K4
  go_wp2_with fail
  refine (sector_any 1 (by omega) (by omega) w5).mono ?_
  rintro e w6 ⟨_, rfl, r6, _, ⟨a6, b6, c6, rfl⟩, k6⟩
  have D6 := hid (D5'.out.keep k6 (by simp))
  have K6 := hid (K5.out.trans k6)
  have R6 := hid r6
  clear r6 k6 D5' K5
  go_wp2_with fail
  refine (write_any w6 p _ F4 _ D6.out (by omega) 0 _ _ R6.out).mono ?_
  rw [kn2_is, kn2_e]
  rintro e w7 ⟨rfl, F7, D7, k7, fr7⟩
  have D7' := hid D7
  have L7 : Hid (∀ b ∈ F7, w.heap.size ≤ b) := fun b hb => by
    rcases fr7 b hb with h | h
    · exact L4.out b h
    · have := K6.out.size; omega
  have K7 : Hid (Keeps [] w w7) := K6.out.trans' k7 (fun i hi hm => by have := L4.out i hm; omega)
  clear D7 k7 fr7 D6 K6 L4 R6
  go_wp2_with fail
  refine (readAt_any w7 p _ F7 _ D7'.out 0).mono ?_
  rintro e w8 ⟨v8, rfl, _, _, k8⟩
  have e8 : readE kn2 0 = 14 := rfl
  rw [e8]
  have D8 := hid (D7'.out.keep k8 (by simp))
  have K8 := hid (K7.out.trans k8)
  clear k8 D7' K7
  go_wp2_with fail
  refine (crash_any w8 p kn2 F7 _ D8.out (by omega) _ [] (by simp) (RowAt.nil w8)).mono ?_
  rintro e w9 ⟨p9, G9, rfl, E9, _, k9⟩
  have E9' := hid E9
  have D9 := hid (D8.out.keep k9 (by simp))
  have K9 := hid (K8.out.trans k9)
  clear E9 k9 D8 K8
  go_wp2_with fail
  refine (readAt_any w9 p9 _ G9 _ E9'.out 0).mono ?_
  rw [KA.out]
  rintro e wa ⟨va, rfl, qa, _, ka⟩
  have QA := hid qa
  have DA := hid (D9.out.keep ka (by simp))
  have KAA := hid (K9.out.trans ka)
  clear qa ka D9 K9 E9'
  go_wp2_with fail
  have QB := hid (QA.out.keep ((Keeps.refl [] wa).alloc (.cells (madeCells #[.int .u8 0] 100) 5)) (by intro _ _ _ _ _; simp))
  have DB := hid (DA.out.keep ((Keeps.refl [] wa).alloc (.cells (madeCells #[.int .u8 0] 100) 5)) (by simp))
  have KB := hid (KAA.out.alloc (.cells (madeCells #[.int .u8 0] 100) 5))
  refine (loadBad_any _ 100 100 (by omega) (by omega) _).mono ?_
  rintro e wb ⟨rfl, hwb⟩
  rw [hwb] at QB DB KB
  clear hwb QA DA KAA
  go_wp2_with fail
  refine (sector_any 1 (by omega) (by omega) wb).mono ?_
  rintro e wc ⟨_, rfl, rr, _, ⟨_, _, _, rfl⟩, jj⟩
  have RR := hid rr
  have QC := hid (QB.out.keep jj (by intro _ _ _ _ _; simp))
  have DC := hid (DB.out.keep jj (by simp))
  have KC := hid (KB.out.trans jj)
  clear rr jj
  go_wp2_with fail
  refine (same_true wc _ _ (secL 1) QC.out RR.out (secL_le _)).mono ?_
  rintro e wd ⟨rfl, jj⟩
  have DD := hid (DC.out.keep jj (by simp))
  have KD := hid (KC.out.trans jj)
  clear jj
  go_wp2_with fail
  refine (opsAt_any wd p _ F7 _ DD.out).mono ?_
  rintro e we ⟨rfl, rfl⟩
  have e9 : kn2.ops = 0 := rfl
  rw [e9]
  go_wp2_with fail
  go_ret
  exact ⟨rfl, KD.out⟩

set_option maxRecDepth 100000 in
theorem known4_lifted (os : Os) (started : os.Started) (H : Type) (enc : TypeId × Value → H) :
    ReturnsInHanded {} Try.checked os 3 .any (Rows.diskKnownSpec.pre6 enc Try.prog Try.f3 Rows.diskKnownRow.domain false) (Rows.diskKnownSpec.post enc Try.prog Try.f3 false true false false) := by
  refine returnsInHanded_of_change (C := Try.checked) own started (by kernel_rfl) Try.func3
    (ChangeSpec.witness6 (enc := enc) (C := Try.checked) false ⟨#[], #[], []⟩ 8 (by kernel_rfl) (by kernel_rfl) (by kernel_rfl) (by kernel_rfl)) ?_
  intro W base args ds gs before hval0 hW hcnd _
  have hval : ∀ (j : Nat) t v, Try.f3.params[j]? = some t → args[j]? = some v → Value.okWide Try.prog W .any base t v := hval0
  have hW' := hW
  obtain ⟨p, q, hA0, hV, rfl, hfz, hnd⟩ := hW
  have hA : DataW.TrodAll enc Try.prog W 0 (fun _ => true) true Try.f3.params.toList args.toList ds p := hA0
  rw [Try.params3] at hA hval
  obtain ⟨hargs, rfl, rfl⟩ := trodAll_none hA
  obtain rfl : args = #[] := by simpa using hargs
  obtain ⟨rfl, rfl⟩ := trodVars_none hV
  clear hA0 hval0
  simp only [List.append_nil] at hW'
  refine (known4_any W ).mono fun e W' ⟨he, hk⟩ => ?_
  subst he
  have bel : Below W.heap.size W W' := hk.below (Nat.le_refl _) (by simp)
  exact ⟨_, rfl, _, _, _, [], _, [], hW', trodAll_mk1 (shut_bool Try.underlying4 _), rfl, rfl, bel.frame _, fun h => by cases h⟩

theorem known4_holds : Rows.DiskKnownSaid :=
  OpenClaim.holds_of_wide 3 Try.f3 rfl rfl rfl rfl rfl rfl rfl ⟨rfl, rfl, rfl, rfl, rfl⟩ rfl rfl rfl rfl rfl (by kernel_rfl) Try.func3 (by kernel_rfl)
    (of_decide_eq_true (by kernel_rfl)) (by unfold Func.isWrapper; rw [if_neg (of_decide_eq_false (by kernel_rfl))]; exact ⟨rfl, rfl⟩)
    (fun os started H enc _ => known4_lifted os started H enc)
end Go.Proofs.Ytodjkgifbocjdaa
