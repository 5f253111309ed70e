/- Chapter 2's examples (the law ParityKnown): whatever the start, the law returns true and nothing that was there has turned. No condition. -/
import Derived.Test.YtpljhbgnaahmoaaPyLaws
import Derived.ProofKit
namespace Go.Proofs.Ytpljhbgnaahmoaa
open Go.ChangeShapes Go.WideShapes Go.ChangeAt Go.RowKit

theorem known2_fill : fillM [[1, 2], [], [2, 2]] 1 1 = some [3] := by decide +kernel
theorem known2_none : fillM [[1]] 1 0 = none := by decide +kernel

theorem FillPost.good {w w' : World} {zs : List Int} {e : Ending} (h : FillPost w (some zs) e w') :
    ∃ a cap, e = .returned (.tuple #[.slice a zs.length cap, .int .i64 0]) ∧ RowAt w' (.slice a zs.length cap) zs ∧ Keeps [] w w' := h
theorem FillPost.bad {w w' : World} {e : Ending} (h : FillPost w Option.none e w') :
    ∃ a cap, e = .returned (.tuple #[.slice a 0 cap, .int .i64 1]) ∧ RowAt w' (.slice a 0 cap) [] ∧ Keeps [] w w' := h

theorem rows_nil {w0 : World} (w : World) : RowsAt w (.slice none 0 0) ([] : List (El w0)) := ⟨none, 0, rfl, by simp, by simp, fun _ => rfl, by simp⟩

theorem lit_keep (w : World) (o : Obj) : Keeps [] w (w.alloc o) := (Keeps.refl _ _).alloc _

set_option maxHeartbeats 2000000 in
theorem lknown_any (w : World) :
    Calls Try.prog 10 #[] w fun e w' => e = .returned (.bool true) ∧ Keeps [] w w' := by
  go_enter Try.func10, Try.ntmps10
  go_wp2_with fail
  refine (lawake_any w).mono ?_
  rintro e w1 ⟨rfl, q1⟩
  have K1 := hid q1
  clear q1
  have r1 := row_lit (w := w1) [1, 2] 5 (by decide) 2 rfl (by unfold maxLen; omega)
  have r2 := row_lit (w := w1.alloc (.cells #[.int .u8 1, .int .u8 2] 5)) [2, 2] 5 (by decide) 2 rfl (by unfold maxLen; omega)
  have X := fill_lit ((w1.alloc (.cells #[.int .u8 1, .int .u8 2] 5)).alloc (.cells #[.int .u8 2, .int .u8 2] 5)) [(.slice (some ⟨w1.heap.size, 0, none⟩) 2 2, [1, 2]), (.slice none 0 0, []), (.slice (some ⟨w1.heap.size + 1, 0, none⟩) 2 2, [2, 2])] (by
    intro r hr
    simp only [List.mem_cons, List.not_mem_nil, or_false] at hr
    rcases hr with rfl | rfl | rfl
    · exact ⟨r1.later (lit_keep _ _), by simp⟩
    · exact ⟨RowAt.nil _, by simp⟩
    · rw [World.size_alloc] at r2
      exact ⟨r2, by simp⟩) 25 (by simp) 1 1
  simp only [World.size_alloc, List.map_cons, List.map_nil, List.length_cons, List.length_nil, Nat.reduceAdd, known2_fill] at X
  replace X := hid X
  clear r1 r2
  go_wp2_with fail
  refine X.out.mono ?_
  intro e w2 hq
  obtain ⟨a2, c2, rfl, q1, q2⟩ := hq.good
  have R2 := hid q1
  have K2 := hid (((((K1.out.alloc _).alloc _).alloc _).trans q2))
  clear q1 q2 X hq
  have r3 := row_lit (w := w2) [1] 5 (by decide) 1 rfl (by unfold maxLen; omega)
  have X := fill_lit (w2.alloc (.cells #[.int .u8 1] 5)) [(.slice (some ⟨w2.heap.size, 0, none⟩) 1 1, [1])] (by
    intro r hr
    simp only [List.mem_cons, List.not_mem_nil, or_false] at hr
    subst hr
    exact ⟨r3, by simp⟩) 25 (by simp) 1 0
  simp only [World.size_alloc, List.map_cons, List.map_nil, List.length_cons, List.length_nil, Nat.reduceAdd, known2_none] at X
  replace X := hid X
  clear r3
  go_wp2_with fail
  refine X.out.mono ?_
  intro e w3 hq
  obtain ⟨a3, c3, rfl, q1, q2⟩ := hq.bad
  have R3 := hid (R2.out.later ((((Keeps.refl [] w2).alloc _).alloc _).trans q2))
  have K3 := hid ((((K2.out.alloc _).alloc _).trans q2))
  clear q1 q2 X hq
  go_wp2_with fail
  refine (same_any _ _ _ _ _ (R3.out.later (lit_keep _ _)) (row_lit (w := w3) [3] 5 (by decide) 1 rfl (by unfold maxLen; omega)) (by simp) (by simp)).mono ?_
  rintro e w4 ⟨rfl, n4, rfl⟩
  rw [show decide (([3] : List Int) = [3]) = true from rfl]
  have K4 := hid ((K3.out.alloc (.cells #[.int .u8 3] 5)).drewN n4)
  have X := xor_at (Keeps.refl [] ((w3.alloc (.cells #[.int .u8 3] 5)).drewN n4)) _ [] (rows_nil _) (by simp)
  rw [show xorL (raws ([] : List (El ((w3.alloc (.cells #[.int .u8 3] 5)).drewN n4)))) = [] from rfl] at X
  replace X := hid X
  go_wp2_with fail
  refine X.out.mono ?_
  rintro e w5 ⟨a5, c5, rfl, _, _, q3⟩
  have K5 := hid (K4.out.trans q3)
  simp only [List.length_nil]
  clear q3
  go_wp2_with fail
  go_ret
  exact ⟨rfl, K5.out⟩

set_option maxRecDepth 100000 in
theorem lknown_lifted (os : Os) (started : os.Started) (H : Type) (enc : TypeId × Value → H) :
    ReturnsInHanded {} Try.checked os 10 .any (Rows.parityKnownSpec.pre6 enc Try.prog Try.f10 Rows.parityKnownRow.domain false) (Rows.parityKnownSpec.post enc Try.prog Try.f10 false true false false) := by
  refine returnsInHanded_of_change (C := Try.checked) own started (by kernel_rfl) Try.func10
    (ChangeSpec.witness6 (enc := enc) (C := Try.checked) false ⟨#[], #[], []⟩ 8 (by kernel_rfl) (by kernel_rfl) (by kernel_rfl) (by kernel_rfl)) ?_
  intro W base args ds gs before hval0 hW hcnd _
  have hW' := hW
  obtain ⟨p, q, hA0, hV, rfl, hfz, hnd⟩ := hW
  have hA : DataW.TrodAll enc Try.prog W 0 (fun _ => true) true Try.f10.params.toList args.toList ds p := hA0
  rw [Try.params10] at hA
  obtain ⟨hargs, rfl, rfl⟩ := trodAll_none hA
  obtain rfl : args = #[] := by simpa using hargs
  obtain ⟨rfl, rfl⟩ := trodVars_none hV
  clear hA0 hval0
  simp only [List.append_nil] at hW'
  refine (lknown_any W).mono fun e W' ⟨he, hk⟩ => ?_
  subst he
  have bel : Below W.heap.size W W' := hk.below (Nat.le_refl _) (by simp)
  exact ⟨_, rfl, _, _, _, [], _, [], hW', trodAll_mk1 (shut_bool Try.underlying4 _), rfl, rfl, bel.frame _, fun h => by cases h⟩

theorem lknown_holds : Rows.ParityKnownSaid :=
  OpenClaim.holds_of_wide 10 Try.f10 rfl rfl rfl rfl rfl rfl rfl ⟨rfl, rfl, rfl, rfl, rfl⟩ rfl rfl rfl rfl rfl (by kernel_rfl) Try.func10 (by kernel_rfl)
    (of_decide_eq_true (by kernel_rfl)) (by unfold Func.isWrapper; rw [if_neg (of_decide_eq_false (by kernel_rfl))]; exact ⟨rfl, rfl⟩)
    (fun os started H enc _ => lknown_lifted os started H enc)
end Go.Proofs.Ytpljhbgnaahmoaa
