/- The reference's Compare; Grade, the code's and the reference's. -/
import Derived.Test.YtoffepagogmkkaaGrB
namespace Go.Proofs.Ytoffepagogmkkaa
open Go.RowKit

theorem ret_int' {k : IntKind} {a b : Int} (h : a = b) : Ending.returned (.int k a) = .returned (.int k b) := by rw [h]

def GradePost (live size age : Int) (w : World) (e : Ending) (w' : World) : Prop := ∃ r n, e = .returned (.float .f64 r) ∧ GradeR live size age r ∧ w' = w.drewN n

set_option maxHeartbeats 1000000 in
theorem grade_any (live size age : Int) (w : World) : Calls Try.prog 11 #[.int .i64 live, .int .i64 size, .int .i64 age] w (GradePost live size age w) := by
  go_enter Try.func11, Try.ntmps11
  go_wp2_with (first
    | (refine wpList_float rfl .quo (by simp) _ _ _ _ rfl (floatOfInt .f64 live) _ rfl rfl ?_; intro u n1 h1)
    | (refine wpList_float rfl .sub (by simp) _ _ _ _ rfl _ _ rfl rfl ?_; intro s n2 h2)
    | (refine wpList_float rfl .mul (by simp) _ _ _ _ rfl _ _ rfl rfl ?_; intro t n3 h3)
    | (refine wpList_float rfl .add (by simp) _ _ _ _ rfl _ _ rfl rfl ?_; intro b n4 h4)
    | (refine wpList_float rfl .quo (by simp) _ _ _ _ rfl t b rfl rfl ?_; intro r n5 h5))
  go_ret
  exact ⟨r, n1 + n2 + n3 + n4 + n5, rfl, ⟨u, s, t, b, h1.out, h2.out, h3.out, h4.out, h5.out⟩, rfl⟩
set_option maxHeartbeats 1000000 in
theorem rgrade_any (live size age : Int) (w : World) : Calls Try.prog 16 #[.int .i64 live, .int .i64 size, .int .i64 age] w (GradePost live size age w) := by
  go_enter Try.func16, Try.ntmps16
  go_wp2_with (first
    | (refine wpList_float rfl .quo (by simp) _ _ _ _ rfl (floatOfInt .f64 live) _ rfl rfl ?_; intro u n1 h1)
    | (refine wpList_float rfl .sub (by simp) _ _ _ _ rfl _ _ rfl rfl ?_; intro s n2 h2)
    | (refine wpList_float rfl .mul (by simp) _ _ _ _ rfl _ _ rfl rfl ?_; intro t n3 h3)
    | (refine wpList_float rfl .add (by simp) _ _ _ _ rfl _ _ rfl rfl ?_; intro b n4 h4)
    | (refine wpList_float rfl .quo (by simp) _ _ _ _ rfl t b rfl rfl ?_; intro r n5 h5))
  go_ret
  exact ⟨r, n1 + n2 + n3 + n4 + n5, rfl, ⟨u, s, t, b, h1.out, h2.out, h3.out, h4.out, h5.out⟩, rfl⟩

theorem ord_self {a : Nat} (h : nanB a = false) : FloatKind.f64.format.order a a = some .eq := by
  have h' := h
  rw [← nanB_is] at h'
  simpa using h'

set_option maxHeartbeats 1000000 in
theorem rcompare_any (a b : Nat) (ha : a < 2 ^ 64) (hb : b < 2 ^ 64) (w : World) : Calls Try.prog 14 #[.float .f64 a, .float .f64 b] w (CmpPost a b w) := by
  have hc := fun x w => bits_call x w
  cases na : nanB a with
  | true =>
    have R := cmpF_nan_left na hb
    have n1 : FloatKind.f64.format.order a a = none := order_nan_left (nan_of ha na) a
    unfold CmpPost
    rw [R]
    cases nb : nanB b with
    | true =>
      have n2 : FloatKind.f64.format.order b b = none := order_nan_left (nan_of hb nb) b
      clear R ha hb na nb
      go_enter Try.func14, Try.ntmps14
      go_wp2
      go_ret
      exact ⟨rfl, rfl⟩
    | false =>
      have n2 := ord_self nb
      clear R ha hb na nb
      go_enter Try.func14, Try.ntmps14
      go_wp2
      go_ret
      exact ⟨rfl, rfl⟩
  | false =>
    have n1 := ord_self na
    cases nb : nanB b with
    | true =>
      have n2 : FloatKind.f64.format.order b b = none := order_nan_left (nan_of hb nb) b
      have R := cmpF_nan_right na nb ha
      unfold CmpPost
      rw [R]
      clear R ha hb na nb
      go_enter Try.func14, Try.ntmps14
      go_wp2
      go_ret
      exact ⟨rfl, rfl⟩
    | false =>
      have n2 := ord_self nb
      rcases order_ck ha hb na nb with ⟨ho, hr⟩ | ⟨ho, hr⟩ | ⟨ho, hr⟩
      · unfold CmpPost
        rw [hr]
        replace ho := ord_of ho
        clear ha hb na nb hr
        go_enter Try.func14, Try.ntmps14
        go_wp2
        go_ret
        exact ⟨rfl, rfl⟩
      · unfold CmpPost
        rw [hr]
        replace ho := ord_of ho
        clear ha hb na nb hr
        go_enter Try.func14, Try.ntmps14
        go_wp2
        go_ret
        exact ⟨rfl, rfl⟩
      · have HR := hid hr
        unfold CmpPost
        generalize cmpF a b = r at HR ⊢
        replace ho := ord_of ho
        clear na nb hr
        go_enter Try.func14, Try.ntmps14
        go_wp2
        all_goals
          go_ret
          refine ⟨ret_int' ?_, rfl⟩
          rw [HR.out]
          simp only [sgB, decide_eq_decide, decide_eq_true_eq]
          split <;> (try split) <;> omega
end Go.Proofs.Ytoffepagogmkkaa
