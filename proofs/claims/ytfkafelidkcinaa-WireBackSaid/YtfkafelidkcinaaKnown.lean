/- Chapter 1's examples (the law WireKnown): whatever the start, the law returns true and nothing that was there has turned. No condition. -/
import Derived.Test.YtfkafelidkcinaaAwake
import Derived.ProofKit
namespace Go.Proofs.Ytfkafelidkcinaa
open Go.ChangeShapes Go.WideShapes Go.ChangeAt Go.RowKit

theorem own : ownKnob Try.prog.godebug = none := by kernel_rfl

theorem known_num : after [0, 5, 0, 2, 97] 0 (rdNum 2 [0, 5, 0, 2, 97]) = (some 5, [0, 2, 97], 0) := by decide +kernel
theorem known_text : after [0, 2, 97] 0 (rdCount 9 [0, 2, 97]) = (none, [0, 2, 97], 2) := by decide +kernel
theorem known_pen : penNum 256 1 ([], 0) = ([], 1) := by decide +kernel

set_option maxHeartbeats 1000000 in
theorem known_any (w : World) :
    Calls Try.prog 3 #[] w fun e w' => e = .returned (.bool true) ∧ Keeps [] w w' := by
  go_enter Try.func3, Try.ntmps3
  go_wp2_with fail
  refine (awake_any w).mono ?_
  rintro e w1 ⟨rfl, q1⟩
  have K1 := hid q1
  clear q1
  go_wp2_with fail
  have RL := row_lit (w := w1) [0, 5, 0, 2, 97] 5 (by decide) 5 rfl (by unfold maxLen; omega)
  have KL := hid (K1.out.alloc (.cells ([0, 5, 0, 2, 97].map (Value.int .u8)).toArray 5))
  refine (newEye_any _ w.heap.size _ _ RL KL.out.size (by decide)).mono ?_
  rintro e w2 ⟨p, v, rfl, q1, q2, q3, q4⟩
  have Y2 : Hid (EyeSince w w2 p v _ 0) := ⟨q2, KL.out.trans q3⟩
  clear q1 q2 q3 q4 RL
  go_wp2_with fail
  refine (eyeNum_any _ w.heap.size p v _ 0 2 Y2.out.eye).mono ?_
  intro e w3 hq
  rw [known_num] at hq
  obtain ⟨⟨v3, q1⟩, q2⟩ := Y2.out.step hq
  obtain rfl := q2
  have Y3 := hid q1
  clear q1 hq
  go_wp2_with fail
  refine (eyeText_any _ w.heap.size p v3 _ 0 9 Y3.out.eye).mono ?_
  intro e w4 hq
  rw [known_text] at hq
  obtain ⟨⟨v4, q1⟩, q2⟩ := Y3.out.step hq
  obtain rfl := q2
  have Y4 := hid q1
  clear q1 hq
  have P4 := hid (PenSince.new w Y4.out.kept 31)
  have Y5 : Hid (EyeAt (w4.alloc (.cells #[.slice none 0 0, .int .i64 0] 31)) w.heap.size p v4 _ 2) := Y4.out.eye.keep (((Keeps.refl [] w4).alloc _)) (by simp) (by intro _ _ _ _ _; simp)
  have hp := Y4.out.eye.lt
  go_wp2_with fail
  refine (num_any _ w.heap.size w4.heap.size _ [] 0 256 1 P4.out.pen P4.out.kept.size).mono ?_
  intro e w5 hq
  rw [known_pen] at hq
  have hk := hq
  obtain ⟨rfl, v5, q2⟩ := P4.out.step hq
  obtain ⟨_, _, _, hk, _⟩ := hk
  have P5 := hid q2
  have Y6 := hid (Y5.out.keep hk (by simp [Value.ownBlock]; omega) (by
    intro ad n c e hne hm
    have hpos : 0 < 3 := by omega
    obtain ⟨g, off, cap, hv, _, hc⟩ := Y4.out.eye.row.open (by simp)
    rw [hv] at e
    injection e with e1 _ _
    obtain rfl := Option.some.inj e1
    have := World.block_lt_of_cell? _ _ (hc 0 (by simp))
    simp [Value.ownBlock] at hm this
    omega))
  clear q2 hq hk
  go_wp2_with fail
  refine (bytes_any _ w.heap.size w4.heap.size _ _ _ P5.out.pen).mono ?_
  intro e w6 hq
  obtain ⟨a, c, rfl, q1, q2, q3⟩ := hq.bad (by omega)
  have K6 := hid (P5.out.kept.trans q3)
  have Y7 := hid (Y6.out.keep q3 (by simp) (by intro _ _ _ _ _; simp))
  clear q1 q2 q3 hq
  go_wp2_with fail
  refine (fail_any _ w.heap.size p v4 _ 2 Y7.out).mono ?_
  rintro e w7 ⟨rfl, rfl⟩
  go_wp2_with fail
  refine (left_any _ w.heap.size p v4 _ 2 Y7.out).mono ?_
  rintro e w7 ⟨rfl, rfl⟩
  go_wp2_with fail
  go_ret
  exact ⟨rfl, K6.out⟩

set_option maxRecDepth 100000 in
theorem known_lifted (os : Os) (started : os.Started) (H : Type) (enc : TypeId × Value → H) :
    ReturnsInHanded {} Try.checked os 3 .any (Rows.wireKnownSpec.pre6 enc Try.prog Try.f3 Rows.wireKnownRow.domain false) (Rows.wireKnownSpec.post enc Try.prog Try.f3 false true false false) := by
  refine returnsInHanded_of_change (C := Try.checked) own started (by kernel_rfl) Try.func3
    (ChangeSpec.witness6 (enc := enc) (C := Try.checked) false ⟨#[], #[], []⟩ 8 (by kernel_rfl) (by kernel_rfl) (by kernel_rfl) (by kernel_rfl)) ?_
  intro W base args ds gs before hval0 hW hcnd _
  have hW' := hW
  obtain ⟨p, q, hA0, hV, rfl, hfz, hnd⟩ := hW
  have hA : DataW.TrodAll enc Try.prog W 0 (fun _ => true) true Try.f3.params.toList args.toList ds p := hA0
  rw [Try.params3] at hA
  obtain ⟨hargs, rfl, rfl⟩ := trodAll_none hA
  obtain rfl : args = #[] := by simpa using hargs
  obtain ⟨rfl, rfl⟩ := trodVars_none hV
  clear hA0 hval0
  simp only [List.append_nil] at hW'
  refine (known_any W).mono fun e W' ⟨he, hk⟩ => ?_
  subst he
  have bel : Below W.heap.size W W' := hk.below (Nat.le_refl _) (by simp)
  exact ⟨_, rfl, _, _, _, [], _, [], hW', trodAll_mk1 (shut_bool Try.underlying4 _), rfl, rfl, bel.frame _, fun h => by cases h⟩

theorem known_holds : Rows.WireKnownSaid :=
  OpenClaim.holds_of_wide 3 Try.f3 rfl rfl rfl rfl rfl rfl rfl ⟨rfl, rfl, rfl, rfl, rfl⟩ rfl rfl rfl rfl rfl (by kernel_rfl) Try.func3 (by kernel_rfl)
    (of_decide_eq_true (by kernel_rfl)) (by unfold Func.isWrapper; rw [if_neg (of_decide_eq_false (by kernel_rfl))]; exact ⟨rfl, rfl⟩)
    (fun os started H enc _ => known_lifted os started H enc)
end Go.Proofs.Ytfkafelidkcinaa
