/- The laws' awake. -/
import Derived.Test.YtoffepagogmkkaaGrC
import Derived.ProofKit
import Derived.SizedLaws
import Derived.OpenShut
namespace Go.Proofs.Ytoffepagogmkkaa
open Go.RowKit

def Still (w : World) (b : Bool) (e : Ending) (w' : World) : Prop := e = .returned (.bool b) ∧ ∃ n, w' = w.drewN n

/-- A grade whose steps are known. -/
theorem grade_is {a size age ru rs rt rb rg : Nat} (c : Chain a size age ru rs rt rb rg) (w : World) :
    Calls Try.prog 11 #[.int .i64 a, .int .i64 size, .int .i64 age] w fun e w' => e = .returned (.float .f64 (dw false rg)) ∧ ∃ n, w' = w.drewN n :=
  (grade_any a size age w).mono fun e w' ⟨r, n, he, hr, hw⟩ => ⟨by rw [he, hr.chain c], n, hw⟩

theorem awake_steps {r : Nat} (h : GradeR 50 100 6 r) : r = 4611686018427387904 := by
  obtain ⟨u, s, t, b, h1, h2, h3, h4, h5⟩ := h
  rw [show floatBits .quo .f64 (floatOfInt .f64 50) (floatOfInt .f64 100) = some 4602678819172646912 from by kernel_rfl] at h1
  replace h1 : u = _ := h1
  rw [h1] at h2 h4
  rw [show floatBits .sub .f64 4607182418800017408 4602678819172646912 = some 4602678819172646912 from by kernel_rfl] at h2
  replace h2 : s = _ := h2
  rw [h2] at h3
  rw [show floatBits .mul .f64 4602678819172646912 (floatOfInt .f64 6) = some 4613937818241073152 from by kernel_rfl] at h3
  replace h3 : t = _ := h3
  rw [show floatBits .add .f64 4607182418800017408 4602678819172646912 = some 4609434218613702656 from by kernel_rfl] at h4
  replace h4 : b = _ := h4
  rw [h3, h4, show floatBits .quo .f64 4613937818241073152 4609434218613702656 = some 4611686018427387904 from by kernel_rfl] at h5
  exact h5

set_option maxHeartbeats 1000000 in
theorem awake3_any (w : World) : Calls Try.prog 10 #[] w (Still w true) := by
  have G : ∀ W, Calls Try.prog 11 #[.int .i64 50, .int .i64 100, .int .i64 6] W fun e w' => e = .returned (.float .f64 4611686018427387904) ∧ ∃ n, w' = W.drewN n :=
    fun W => (grade_any 50 100 6 W).mono fun e w' ⟨r, n, he, hr, hw⟩ => ⟨by rw [he, awake_steps hr], n, hw⟩
  have C : ∀ W, Calls Try.prog 12 #[.float .f64 4607182418800017408, .float .f64 4611686018427387904] W fun e w' => e = .returned (.int .i64 (-1)) ∧ W = w' :=
    fun W => (compare_any _ _ (by omega) (by omega) W).mono fun e w' ⟨he, hw⟩ => ⟨by rw [he]; rfl, hw⟩
  have ho : FloatKind.f64.format.order 4611686018427387904 4611686018427387904 = some .eq := by kernel_rfl
  go_enter Try.func10, Try.ntmps10
  go_wp2_with (first | (go_at_call 11; (with_reducible refine (G _).mono ?_); rintro e w' ⟨rfl, n, rfl⟩) | (go_at_call 12; (with_reducible refine (C _).mono ?_); rintro e w' ⟨rfl, rfl⟩))
  go_ret
  exact ⟨rfl, n, rfl⟩

theorem Still.keeps {w w' : World} {b : Bool} {e : Ending} (h : Still w b e w') : e = .returned (.bool b) ∧ Keeps [] w w' := by
  obtain ⟨he, n, rfl⟩ := h
  exact ⟨he, (Keeps.refl _ _).drewN n⟩

theorem own : ownKnob Try.prog.godebug = none := by kernel_rfl
theorem laidOut : laidOutB Try.prog = true := by kernel_rfl
end Go.Proofs.Ytoffepagogmkkaa
