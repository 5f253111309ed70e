/- grade's Compare and Grade, the reference's, Bits. -/
import Derived.Test.YtoffepagogmkkaaGrA
import Derived.Test.YtoffepagogmkkaaRows
import Derived.Test.YtoffepagogmkkaaBase
import Derived.RegionTactic
import Derived.Deep.QuietTactic
import Derived.BigQuiet
namespace Go.Proofs.Ytoffepagogmkkaa
open Go.RowKit

theorem isnan_any (x : Nat) (w : World) : Calls Try.prog 19 #[.float .f64 x] w fun e w' => e = .returned (.bool (nanB x)) ∧ w = w' := by
  go_enter Try.func19, Try.ntmps19
  go_wp2
  go_ret
  exact ⟨rfl, rfl⟩

/-- -1, 0, 1: false ahead of true. -/
def cmpB (a b : Bool) : Int := if a = b then 0 else if b then -1 else 1

theorem bools_any (a b : Bool) (w : World) : Calls Try.prog 20 #[.bool a, .bool b] w fun e w' => e = .returned (.int .i64 (cmpB a b)) ∧ w = w' := by
  cases a <;> cases b <;> (go_enter Try.func20, Try.ntmps20; go_wp2; go_ret; exact ⟨rfl, rfl⟩)

theorem wrap_neg (x : Nat) (hx : x < 2 ^ 64) : decide (wrap64 (x : Int) < 0) = sgB x := by
  unfold sgB
  rw [decide_eq_decide]
  unfold wrap64
  omega

theorem bits_call (x : Nat) (w : World) : (callFunc 22 #[.float .f64 x]).run Try.prog w = .ok (.value (.int .u64 x)) w := by kernel_rfl
theorem from_call (w : World) : (callFunc 30 #[.int .u64 9221120237041090561]).run Try.prog w = .ok (.value (.float .f64 9221120237041090561)) w := by kernel_rfl

theorem sign_any (x : Nat) (hx : x < 2 ^ 64) (w : World) : Calls Try.prog 21 #[.float .f64 x] w fun e w' => e = .returned (.bool (sgB x)) ∧ w = w' := by
  have H := hid (wrap_neg x hx)
  clear hx
  have hb := fun w => bits_call x w
  go_enter Try.func21, Try.ntmps21
  go_wp2
  go_ret
  exact ⟨by rw [← H.out]; simp, rfl⟩

theorem nan_any (w : World) : Calls Try.prog 25 #[] w fun e w' => e = .returned (.float .f64 9221120237041090561) ∧ w = w' := by
  have hb := from_call
  go_enter Try.func25, Try.ntmps25
  go_wp2
  go_ret
  exact ⟨rfl, rfl⟩

theorem bits_any (x : Nat) (w : World) : Calls Try.prog 15 #[.float .f64 x] w fun e w' => e = .returned (.int .u64 (bitsF x)) ∧ w = w' := by
  have hb := fun w => bits_call x w
  unfold bitsF
  cases h : nanB x
  · have hn : FloatKind.f64.format.order x x = some .eq := by have h' := h; rw [← nanB_is] at h'; simpa using h'
    clear h
    go_enter Try.func15, Try.ntmps15
    go_wp2
    go_ret
    exact ⟨rfl, rfl⟩
  · have hn : (FloatKind.f64.format.order x x == some .eq) = false := by have h' := h; rw [← nanB_is] at h'; simpa using h'
    have hn' : (FloatKind.f64.format.order x x != some .eq) = true := by have h' := h; rw [← nanB_is] at h'; simpa using h'
    clear h
    go_enter Try.func15, Try.ntmps15
    go_wp2
    go_ret
    exact ⟨rfl, rfl⟩

theorem ord_of {a b : Nat} {o : Ordering} (h : Ieee.double.order a b = some o) : FloatKind.f64.format.order a b = some o := h

/-- What Compare answers, whoever asks. -/
abbrev CmpPost (a b : Nat) (w : World) : Ending → World → Prop := fun e w' => e = .returned (.int .i64 (cmpF a b)) ∧ w = w'

set_option maxHeartbeats 1000000 in
theorem compare_any (a b : Nat) (ha : a < 2 ^ 64) (hb : b < 2 ^ 64) (w : World) : Calls Try.prog 12 #[.float .f64 a, .float .f64 b] w (CmpPost a b w) := by
  cases na : nanB a with
  | true =>
    have R : cmpF a b = cmpB true (nanB b) := by rw [cmpF_nan_left na hb]; cases nanB b <;> rfl
    unfold CmpPost
    rw [R]
    clear R ha hb
    have N1 := fun W => na ▸ isnan_any a W
    have N2 := fun W => isnan_any b W
    clear na
    generalize nanB b = nb at N2 ⊢
    have B := fun W => bools_any true nb W
    generalize cmpB true nb = r at B ⊢
    go_enter Try.func12, Try.ntmps12
    go_wp2_with (first | (go_at_call 19; first | ((with_reducible refine (N1 _).mono ?_); rintro e w' ⟨rfl, rfl⟩) | ((with_reducible refine (N2 _).mono ?_); rintro e w' ⟨rfl, rfl⟩)) | (go_at_call 20; refine (B _).mono ?_; rintro e w' ⟨rfl, rfl⟩))
    go_ret
    exact ⟨rfl, rfl⟩
  | false =>
    have N1 := fun W => na ▸ isnan_any a W
    cases nb : nanB b with
    | true =>
      have R : cmpF a b = cmpB false true := by rw [cmpF_nan_right na nb ha]; rfl
      unfold CmpPost
      rw [R]
      clear R ha hb
      have N2 := fun W => nb ▸ isnan_any b W
      clear na nb
      have B := fun W => bools_any false true W
      generalize cmpB false true = r at B ⊢
      go_enter Try.func12, Try.ntmps12
      go_wp2_with (first | (go_at_call 19; first | ((with_reducible refine (N1 _).mono ?_); rintro e w' ⟨rfl, rfl⟩) | ((with_reducible refine (N2 _).mono ?_); rintro e w' ⟨rfl, rfl⟩)) | (go_at_call 20; refine (B _).mono ?_; rintro e w' ⟨rfl, rfl⟩))
      go_ret
      exact ⟨rfl, rfl⟩
    | false =>
      have N2 := fun W => nb ▸ isnan_any b W
      rcases order_ck ha hb na nb with ⟨ho, hc⟩ | ⟨ho, hc⟩ | ⟨ho, hc⟩
      · unfold CmpPost
        rw [hc]
        replace ho := ord_of ho
        clear ha hb na nb hc
        go_enter Try.func12, Try.ntmps12
        go_wp2_with (go_at_call 19; first | ((with_reducible refine (N1 _).mono ?_); rintro e w' ⟨rfl, rfl⟩) | ((with_reducible refine (N2 _).mono ?_); rintro e w' ⟨rfl, rfl⟩))
        go_ret
        exact ⟨rfl, rfl⟩
      · unfold CmpPost
        rw [hc]
        replace ho := ord_of ho
        clear ha hb na nb hc
        go_enter Try.func12, Try.ntmps12
        go_wp2_with (go_at_call 19; first | ((with_reducible refine (N1 _).mono ?_); rintro e w' ⟨rfl, rfl⟩) | ((with_reducible refine (N2 _).mono ?_); rintro e w' ⟨rfl, rfl⟩))
        go_ret
        exact ⟨rfl, rfl⟩
      · unfold CmpPost
        have R : cmpF a b = cmpB (!sgB a) (!sgB b) := by rw [hc]; cases sgB a <;> cases sgB b <;> rfl
        rw [R]
        replace ho := ord_of ho
        have S1 := fun W => sign_any a ha W
        have S2 := fun W => sign_any b hb W
        clear ha hb na nb hc R
        generalize sgB a = sa at S1 ⊢
        generalize sgB b = sb at S2 ⊢
        have B := fun W => bools_any (!sa) (!sb) W
        generalize cmpB (!sa) (!sb) = r at B ⊢
        go_enter Try.func12, Try.ntmps12
        go_wp2_with (first | (go_at_call 19; first | ((with_reducible refine (N1 _).mono ?_); rintro e w' ⟨rfl, rfl⟩) | ((with_reducible refine (N2 _).mono ?_); rintro e w' ⟨rfl, rfl⟩)) | (go_at_call 21; first | ((with_reducible refine (S1 _).mono ?_); rintro e w' ⟨rfl, rfl⟩) | ((with_reducible refine (S2 _).mono ?_); rintro e w' ⟨rfl, rfl⟩)) | (go_at_call 20; refine (B _).mono ?_; rintro e w' ⟨rfl, rfl⟩))
        go_ret
        exact ⟨rfl, rfl⟩
end Go.Proofs.Ytoffepagogmkkaa
