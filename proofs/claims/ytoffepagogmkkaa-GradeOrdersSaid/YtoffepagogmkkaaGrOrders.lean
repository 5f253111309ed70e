/- Of any three numbers the order is one (the law GradeOrders): for every three float64s, NaNs and infinities too, the law returns true. No condition. -/
import Derived.Test.YtoffepagogmkkaaGrD
namespace Go.Proofs.Ytoffepagogmkkaa
open Go.ChangeShapes Go.WideShapes Go.ChangeAt Go.RowKit

/-- Compare, by names for what it answers. -/
theorem compare_as {a b : Nat} {x : Int} (ha : a < 2 ^ 64) (hb : b < 2 ^ 64) (h : cmpF a b = x) (w : World) : Calls Try.prog 12 #[.float .f64 a, .float .f64 b] w fun e w' => e = .returned (.int .i64 x) ∧ w = w' := by
  rw [← h]; exact compare_any a b ha hb w
theorem rcompare_as {a b : Nat} {x : Int} (ha : a < 2 ^ 64) (hb : b < 2 ^ 64) (h : cmpF a b = x) (w : World) : Calls Try.prog 14 #[.float .f64 a, .float .f64 b] w fun e w' => e = .returned (.int .i64 x) ∧ w = w' := by
  rw [← h]; exact rcompare_any a b ha hb w
theorem bits_as {a u : Nat} (h : bitsF a = u) (w : World) : Calls Try.prog 15 #[.float .f64 a] w fun e w' => e = .returned (.int .u64 u) ∧ w = w' := by
  rw [← h]; exact bits_any a w

set_option maxRecDepth 100000 in
set_option maxHeartbeats 4000000 in
theorem orders_walk (w : World) (a b c u v : Nat) (x y z : Int)
    (Cab : ∀ W, Calls Try.prog 12 #[.float .f64 a, .float .f64 b] W fun e w' => e = .returned (.int .i64 x) ∧ W = w')
    (Cbc : ∀ W, Calls Try.prog 12 #[.float .f64 b, .float .f64 c] W fun e w' => e = .returned (.int .i64 y) ∧ W = w')
    (Cac : ∀ W, Calls Try.prog 12 #[.float .f64 a, .float .f64 c] W fun e w' => e = .returned (.int .i64 z) ∧ W = w')
    (Rab : ∀ W, Calls Try.prog 14 #[.float .f64 a, .float .f64 b] W fun e w' => e = .returned (.int .i64 x) ∧ W = w')
    (Cba : ∀ W, Calls Try.prog 12 #[.float .f64 b, .float .f64 a] W fun e w' => e = .returned (.int .i64 (-x)) ∧ W = w')
    (Caa : ∀ W, Calls Try.prog 12 #[.float .f64 a, .float .f64 a] W fun e w' => e = .returned (.int .i64 0) ∧ W = w')
    (Ba : ∀ W, Calls Try.prog 15 #[.float .f64 a] W fun e w' => e = .returned (.int .u64 u) ∧ W = w')
    (Bb : ∀ W, Calls Try.prog 15 #[.float .f64 b] W fun e w' => e = .returned (.int .u64 v) ∧ W = w')
    (x1 : -1 ≤ x) (x2 : x ≤ 1) (ht : x ≤ 0 → y ≤ 0 → z ≤ 0) (hu : x = 0 ↔ u = v) :
    Calls Try.prog 4 #[.float .f64 a, .float .f64 b, .float .f64 c] w (Still w true) := by
  have main : ∀ (_ : (decide (0 < x) = true) ∨ (decide (0 < x) = false ∧ decide (0 < y) = true) ∨ (decide (0 < x) = false ∧ decide (0 < y) = false ∧ decide (z ≤ 0) = true)) (_ : Hid (((x == 0) == ((u : Int) == v)) = true)),
      Calls Try.prog 4 #[.float .f64 a, .float .f64 b, .float .f64 c] w (Still w true) := by
    intro h1 h2
    clear ht hu
    rcases h1 with h1 | ⟨h1, h4⟩ | ⟨h1, h4, h5⟩
    all_goals
      go_enter Try.func4, Try.ntmps4
      go_wp2_with fail
      refine (awake3_any w).mono ?_
      rintro e w1 ⟨rfl, n1, rfl⟩
      go_wp2_with fail
      refine (Cab _).mono ?_
      rintro e w2 ⟨rfl, rfl⟩
      go_wp2_with fail
      refine (Cbc _).mono ?_
      rintro e w2 ⟨rfl, rfl⟩
      go_wp2_with fail
      refine (Cac _).mono ?_
      rintro e w2 ⟨rfl, rfl⟩
      go_wp2_with fail
      refine (Rab _).mono ?_
      rintro e w2 ⟨rfl, rfl⟩
      go_wp2_with fail
      refine (Cba _).mono ?_
      rintro e w2 ⟨rfl, rfl⟩
      go_wp2_with fail
      refine (Caa _).mono ?_
      rintro e w2 ⟨rfl, rfl⟩
      go_wp2_with fail
      refine (Ba _).mono ?_
      rintro e w2 ⟨rfl, rfl⟩
      go_wp2_with fail
      refine (Bb _).mono ?_
      rintro e w2 ⟨rfl, rfl⟩
      go_wp2_with fail
      go_ret
      exact ⟨congrArg (fun q => Ending.returned (.bool q)) h2.out, _, rfl⟩
  refine main ?_ ?_
  · by_cases h1 : 0 < x
    · exact Or.inl (by simpa using h1)
    · by_cases h2 : 0 < y
      · exact Or.inr (Or.inl ⟨by simpa using h1, by simpa using h2⟩)
      · exact Or.inr (Or.inr ⟨by simpa using h1, by simpa using h2, by simpa using ht (by omega) (by omega)⟩)
  · refine hid ?_
    by_cases h : x = 0
    · have := hu.1 h
      subst this
      simp [h]
    · have : ¬ (u : Int) = v := fun e => h (hu.2 (by omega))
      rw [beq_eq_false_iff_ne.2 h, beq_eq_false_iff_ne.2 this]; rfl

theorem orders_any (w : World) (a b c : Nat) (ha : (Lit.float .f64 a).wf = true) (hb : (Lit.float .f64 b).wf = true) (hc : (Lit.float .f64 c).wf = true) :
    Calls Try.prog 4 #[.float .f64 a, .float .f64 b, .float .f64 c] w (Still w true) := by
  have a1 : a < 2 ^ 64 := by simpa [Lit.wf] using ha
  have b1 : b < 2 ^ 64 := by simpa [Lit.wf] using hb
  have c1 : c < 2 ^ 64 := by simpa [Lit.wf] using hc
  have hx := cmpF_bd a b
  exact orders_walk w a b c _ _ _ _ _ (compare_as a1 b1 rfl) (compare_as b1 c1 rfl) (compare_as a1 c1 rfl) (rcompare_as a1 b1 rfl) (compare_as b1 a1 (cmpF_swap a b)) (compare_as a1 a1 (cmpF_self a)) (bits_as rfl) (bits_as rfl)
    hx.1 hx.2 cmpF_trans (cmpF_zero.trans (ck_bits a1 b1))

set_option maxRecDepth 100000 in
theorem orders_lifted (os : Os) (started : os.Started) (H : Type) (enc : TypeId × Value → H) :
    ReturnsInHanded {} Try.checked os 4 .any (Rows.gradeOrdersSpec.pre6 enc Try.prog Try.f4 Rows.gradeOrdersRow.domain false) (Rows.gradeOrdersSpec.post enc Try.prog Try.f4 false true false false) := by
  refine returnsInHanded_of_change (C := Try.checked) own started (by kernel_rfl) Try.func4
    (ChangeSpec.witness6 (enc := enc) (C := Try.checked) false ⟨#[], #[.float .f64 0, .float .f64 0, .float .f64 0], []⟩ 8 (by kernel_rfl) (by kernel_rfl) (by kernel_rfl) (by kernel_rfl)) ?_
  intro W base args ds gs before hval0 hW hcnd _
  have hval : ∀ (j : Nat) t v, Try.f4.params[j]? = some t → args[j]? = some v → Value.okWide Try.prog W .any base t v := hval0
  have hW' := hW
  obtain ⟨p, q, hA0, hV, rfl, hfz, hnd⟩ := hW
  have hA : DataW.TrodAll enc Try.prog W 0 (fun _ => true) true Try.f4.params.toList args.toList ds p := hA0
  rw [Try.params4] at hA hval
  obtain ⟨v0, vs0, d0, ds0, p0, q0, hargs, rfl, rfl, h0, r0⟩ := trodAll_cons hA
  obtain ⟨v1, vs1, d1, ds1, p1, q1, rfl, rfl, rfl, h1, r1⟩ := trodAll_cons r0
  obtain ⟨v2, vs2, d2, ds2, p2, q2, rfl, rfl, rfl, h2, r2⟩ := trodAll_cons r1
  obtain ⟨rfl, rfl, rfl⟩ := trodAll_nil r2
  obtain rfl : args = #[v0, v1, v2] := by cases args; simp_all
  obtain ⟨rfl, rfl⟩ := trodVars_none hV
  obtain ⟨z0, rfl, rfl, rfl, w0⟩ := open_float Try.underlying23 (hval 0 23 v0 rfl rfl) h0
  obtain ⟨z1, rfl, rfl, rfl, w1⟩ := open_float Try.underlying23 (hval 1 23 v1 rfl rfl) h1
  obtain ⟨z2, rfl, rfl, rfl, w2⟩ := open_float Try.underlying23 (hval 2 23 v2 rfl rfl) h2
  clear hA0 hval0
  refine (orders_any W z0 z1 z2 w0 w1 w2).mono fun e W' hs => ?_
  obtain ⟨he, hk⟩ := hs.keeps
  subst he
  have bel : Below W.heap.size W W' := hk.below (Nat.le_refl _) (by simp)
  exact ⟨_, rfl, _, _, _, [], _, [], hW', trodAll_mk1 (shut_bool Try.underlying4 _), (trodAll_cons_mk (shut_float Try.underlying23 w0) (trodAll_cons_mk (shut_float Try.underlying23 w1) (trodAll_cons_mk (shut_float Try.underlying23 w2) trodAll_mk0))), rfl, bel.frame _, fun h => by cases h⟩

theorem orders_holds : Rows.GradeOrdersSaid :=
  OpenClaim.holds_of_wide 4 Try.f4 rfl rfl rfl rfl rfl rfl rfl ⟨rfl, rfl, rfl, rfl, rfl⟩ rfl rfl rfl rfl rfl (by kernel_rfl) Try.func4 (by kernel_rfl)
    (of_decide_eq_true (by kernel_rfl)) (by unfold Func.isWrapper; rw [if_neg (of_decide_eq_false (by kernel_rfl))]; exact ⟨rfl, rfl⟩)
    (fun os started H enc _ => orders_lifted os started H enc)
end Go.Proofs.Ytoffepagogmkkaa
