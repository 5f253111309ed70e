/- Chapter 3's examples (the law GradeKnown): the law returns true. No condition. -/
import Derived.Test.YtoffepagogmkkaaGrL
namespace Go.Proofs.Ytoffepagogmkkaa
open Go.ChangeShapes Go.WideShapes Go.ChangeAt Go.RowKit

theorem none_grade {r : Nat} (h : GradeR 0 0 1 r) : NanW r := by
  obtain ⟨u, s, t, b, h1, h2, h3, h4, h5⟩ := h
  have e1 : floatBits .quo .f64 (floatOfInt .f64 0) (floatOfInt .f64 0) = none := by kernel_rfl
  rw [e1] at h1
  have e2 : floatBits .sub .f64 4607182418800017408 u = none := sub_nan (Or.inr h1)
  rw [e2] at h2
  have e3 : floatBits .mul .f64 s (floatOfInt .f64 1) = none := mul_nan (Or.inl h2)
  rw [e3] at h3
  have e5 : floatBits .quo .f64 t b = none := div_nan (Or.inl h3)
  rw [e5] at h5
  exact h5
theorem grade_0 {r : Nat} (h : GradeR 0 100 5 r) : r = 4617315517961601024 := by
  obtain ⟨u, s, t, b, h1, h2, h3, h4, h5⟩ := h
  rw [show floatBits .quo .f64 (floatOfInt .f64 0) (floatOfInt .f64 100) = some 0 from by kernel_rfl] at h1
  replace h1 : u = _ := h1
  rw [h1] at h2 h4
  rw [show floatBits .sub .f64 4607182418800017408 0 = some 4607182418800017408 from by kernel_rfl] at h2
  replace h2 : s = _ := h2
  rw [h2] at h3
  rw [show floatBits .mul .f64 4607182418800017408 (floatOfInt .f64 5) = some 4617315517961601024 from by kernel_rfl] at h3
  replace h3 : t = _ := h3
  rw [show floatBits .add .f64 4607182418800017408 0 = some 4607182418800017408 from by kernel_rfl] at h4
  replace h4 : b = _ := h4
  rw [h3, h4, show floatBits .quo .f64 4617315517961601024 4607182418800017408 = some 4617315517961601024 from by kernel_rfl] at h5
  exact h5
theorem grade_100 {r : Nat} (h : GradeR 100 100 5 r) : r = 0 := by
  obtain ⟨u, s, t, b, h1, h2, h3, h4, h5⟩ := h
  rw [show floatBits .quo .f64 (floatOfInt .f64 100) (floatOfInt .f64 100) = some 4607182418800017408 from by kernel_rfl] at h1
  replace h1 : u = _ := h1
  rw [h1] at h2 h4
  rw [show floatBits .sub .f64 4607182418800017408 4607182418800017408 = some 0 from by kernel_rfl] at h2
  replace h2 : s = _ := h2
  rw [h2] at h3
  rw [show floatBits .mul .f64 0 (floatOfInt .f64 5) = some 0 from by kernel_rfl] at h3
  replace h3 : t = _ := h3
  rw [show floatBits .add .f64 4607182418800017408 4607182418800017408 = some 4611686018427387904 from by kernel_rfl] at h4
  replace h4 : b = _ := h4
  rw [h3, h4, show floatBits .quo .f64 0 4611686018427387904 = some 0 from by kernel_rfl] at h5
  exact h5

theorem floats_nil (w : World) : FloatsAt w (.slice none 0 0) [] := ⟨⟨none, 0, rfl, by simp, by simp, fun _ => rfl, by simp⟩, by simp⟩

theorem compare_at {a b : Nat} {x : Int} (ha : a < 2 ^ 64) (hb : b < 2 ^ 64) (h : cmpF a b = x) (w : World) : Calls Try.prog 12 #[.float .f64 a, .float .f64 b] w fun e w' => e = .returned (.int .i64 x) ∧ w = w' := by
  rw [← h]; exact compare_any a b ha hb w

set_option maxRecDepth 100000 in
set_option maxHeartbeats 4000000 in
theorem known_any (w : World) : Calls Try.prog 3 #[] w (Still w true) := by
  have q1 : ∀ t W, (binOp .quo t (.float .f64 4607182418800017408) (.float .f64 0)).run Try.prog W = .ok (.float .f64 9218868437227405312) W := fun t W => run_float_arith W .quo t .f64 _ _ _ (by kernel_rfl)
  have q2 : ∀ t W, (binOp .quo t (.float .f64 13830554455654793216) (.float .f64 9218868437227405312)).run Try.prog W = .ok (.float .f64 9223372036854775808) W := fun t W => run_float_arith W .quo t .f64 _ _ _ (by kernel_rfl)
  have C0 := fun W => compare_at (a := 9223372036854775808) (b := 0) (x := -1) (by omega) (by omega) (by kernel_rfl) W
  have o1 : FloatKind.f64.format.order 4617315517961601024 4617315517961601024 = some .eq := by kernel_rfl
  have o2 : FloatKind.f64.format.order 0 0 = some .eq := by kernel_rfl
  go_enter Try.func3, Try.ntmps3
  go_wp2_with fail
  refine (awake3_any _).mono ?_
  rintro e w1 ⟨rfl, n1, rfl⟩
  go_wp2_with (refine wpList_float rfl .quo (by simp) _ _ _ _ rfl 0 0 rfl rfl ?_; intro nn n2 hn)
  have HN : NanW nn := by
    have := hn.out
    rwa [show floatBits .quo .f64 0 0 = none from by kernel_rfl] at this
  have C1 := fun W => compare_at (a := nn) (b := 9218868437227405312) (x := 1) HN.lt (by omega) (by rw [cmpF_nan_left (nanB_nan HN) (by omega)]; kernel_rfl) W
  have C2 := fun W => compare_at (a := nn) (b := nn) (x := 0) HN.lt HN.lt (cmpF_self nn) W
  clear HN hn
  refine (grade_any _ _ _ _).mono ?_
  rintro e w3 ⟨r, n3, rfl, hr, rfl⟩
  have hx : FloatKind.f64.format.order r r = none := order_nan_left (none_grade hr) r
  clear hr
  go_wp2_with fail
  refine (C0 _).mono ?_
  rintro e w4 ⟨rfl, rfl⟩
  go_wp2_with fail
  refine (C1 _).mono ?_
  rintro e w4 ⟨rfl, rfl⟩
  go_wp2_with fail
  refine (C2 _).mono ?_
  rintro e w4 ⟨rfl, rfl⟩
  go_wp2_with fail
  refine (grade_any _ _ _ _).mono ?_
  rintro e w5 ⟨r5, n5, rfl, hr, rfl⟩
  rw [grade_0 hr]
  clear hr
  go_wp2_with fail
  refine (grade_any _ _ _ _).mono ?_
  rintro e w6 ⟨r6, n6, rfl, hr, rfl⟩
  rw [grade_100 hr]
  clear hr
  go_wp2_with fail
  refine (best_any _ _ [] (floats_nil _)).mono ?_
  rintro e w7 ⟨rfl, rfl⟩
  simp only [List.length_nil, bestK]
  go_wp2_with fail
  go_ret
  exact ⟨rfl, _, rfl⟩

set_option maxRecDepth 100000 in
theorem known_lifted (os : Os) (started : os.Started) (H : Type) (enc : TypeId × Value → H) :
    ReturnsInHanded {} Try.checked os 3 .any (Rows.gradeKnownSpec.pre6 enc Try.prog Try.f3 Rows.gradeKnownRow.domain false) (Rows.gradeKnownSpec.post enc Try.prog Try.f3 false true false false) := by
  refine returnsInHanded_of_change (C := Try.checked) own started (by kernel_rfl) Try.func3
    (ChangeSpec.witness6 (enc := enc) (C := Try.checked) false ⟨#[], #[], []⟩ 8 (by kernel_rfl) (by kernel_rfl) (by kernel_rfl) (by kernel_rfl)) ?_
  intro W base args ds gs before hval0 hW hcnd _
  have hval : ∀ (j : Nat) t v, Try.f3.params[j]? = some t → args[j]? = some v → Value.okWide Try.prog W .any base t v := hval0
  have hW' := hW
  obtain ⟨p, q, hA0, hV, rfl, hfz, hnd⟩ := hW
  have hA : DataW.TrodAll enc Try.prog W 0 (fun _ => true) true Try.f3.params.toList args.toList ds p := hA0
  rw [Try.params3] at hA hval
  obtain ⟨hargs, rfl, rfl⟩ := trodAll_none hA
  obtain rfl : args = #[] := by simpa using hargs
  obtain ⟨rfl, rfl⟩ := trodVars_none hV
  clear hA0 hval0
  simp only [List.append_nil] at hW'
  refine (known_any W).mono fun e W' hs => ?_
  obtain ⟨he, hk⟩ := hs.keeps
  subst he
  have bel : Below W.heap.size W W' := hk.below (Nat.le_refl _) (by simp)
  exact ⟨_, rfl, _, _, _, [], _, [], hW', trodAll_mk1 (shut_bool Try.underlying4 _), rfl, rfl, bel.frame _, fun h => by cases h⟩

theorem known_holds : Rows.GradeKnownSaid :=
  OpenClaim.holds_of_wide 3 Try.f3 rfl rfl rfl rfl rfl rfl rfl ⟨rfl, rfl, rfl, rfl, rfl⟩ rfl rfl rfl rfl rfl (by kernel_rfl) Try.func3 (by kernel_rfl)
    (of_decide_eq_true (by kernel_rfl)) (by unfold Func.isWrapper; rw [if_neg (of_decide_eq_false (by kernel_rfl))]; exact ⟨rfl, rfl⟩)
    (fun os started H enc _ => known_lifted os started H enc)
end Go.Proofs.Ytoffepagogmkkaa
