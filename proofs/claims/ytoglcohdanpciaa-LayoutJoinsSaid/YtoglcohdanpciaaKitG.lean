/- Plain: a number between two; a stripe that may be. (For every layer.) -/
import Derived.Test.YtoglcohdanpciaaCore
namespace Go.Proofs.Ytoglcohdanpciaa
open Go.RowKit
set_option maxRecDepth 100000
set_option linter.unusedSimpArgs false

def btw (x lo hi : Int) : Bool := decide (lo ≤ x) && decide (x ≤ hi)
theorem btw_is {x lo hi : Int} : btw x lo hi = true ↔ lo ≤ x ∧ x ≤ hi := by simp [btw]
def msB (c l n : Int) : Bool := btw c 0 4 && btw l 0 1048576 && btw n 0 1073741824
theorem ret_boolP {a b : Bool} (h : a = b) : Ending.returned (.bool a) = .returned (.bool b) := by rw [h]
set_option maxHeartbeats 3200000 in
theorem rMayStripe_any (w : World) (c l n : Int) (b : Bool) (hb : msB c l n = b) : Calls Try.prog 65 #[.agg #[.int .i64 c, .int .i64 l, .int .i64 n]] w fun e w' => e = .returned (.bool b) ∧ Keeps [] w w' := by
  subst hb
  have E : Hid (msB c l n = (decide (0 ≤ c) && (decide (c ≤ 4) && (decide (0 ≤ l) && (decide (l ≤ 1048576) && (decide (0 ≤ n) && decide (n ≤ 1073741824))))))) := hid (by simp [msB, btw, Bool.and_assoc])
  have KB := hid ((Keeps.refl [] w).alloc (.cells #[.int .i64 c, .int .i64 l, .int .i64 n] 30))
  by_cases h0 : 0 ≤ c
  · by_cases h1 : c ≤ 4
    · by_cases h2 : 0 ≤ l
      · by_cases h3 : l ≤ 1048576
        · by_cases h4 : 0 ≤ n
          · by_cases h5 : n ≤ 1073741824
            · go_enter Try.func65, Try.ntmps65
              go_wp2_with fail
              go_ret
              exact ⟨ret_boolP (by rw [E.out]; simp [h0, h1, h2, h3, h4, h5] <;> omega), KB.out⟩
            · go_enter Try.func65, Try.ntmps65
              go_wp2_with fail
              go_ret
              exact ⟨ret_boolP (by rw [E.out]; simp [h0, h1, h2, h3, h4, h5] <;> omega), KB.out⟩
          · go_enter Try.func65, Try.ntmps65
            go_wp2_with fail
            go_ret
            exact ⟨ret_boolP (by rw [E.out]; simp [h0, h1, h2, h3, h4] <;> omega), KB.out⟩
        · go_enter Try.func65, Try.ntmps65
          go_wp2_with fail
          go_ret
          exact ⟨ret_boolP (by rw [E.out]; simp [h0, h1, h2, h3] <;> omega), KB.out⟩
      · go_enter Try.func65, Try.ntmps65
        go_wp2_with fail
        go_ret
        exact ⟨ret_boolP (by rw [E.out]; simp [h0, h1, h2] <;> omega), KB.out⟩
    · go_enter Try.func65, Try.ntmps65
      go_wp2_with fail
      go_ret
      exact ⟨ret_boolP (by rw [E.out]; simp [h0, h1] <;> omega), KB.out⟩
  · go_enter Try.func65, Try.ntmps65
    go_wp2_with fail
    go_ret
    exact ⟨ret_boolP (by rw [E.out]; simp [h0] <;> omega), KB.out⟩

end Go.Proofs.Ytoglcohdanpciaa
