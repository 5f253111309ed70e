/- once: the walks of isClient, mayBe, the questions, New, isMade. -/
import Derived.Test.YtkfebgbgnpdgpaaOnA
import Derived.Test.YtkfebgbgnpdgpaaKitE
namespace Go.Proofs.Ytkfebgbgnpdgpaa
open Go.RowKit Go.Shelf
set_option maxRecDepth 100000

set_option maxHeartbeats 400000 in
theorem nIsClient_any (w : World) (c : Int) : Calls Try.prog 46 #[.int .i64 c] w fun e w' => e = .returned (.bool (decide (0 ≤ c ∧ c < 4))) ∧ w = w' := by
  by_cases h1 : 0 ≤ c
  · by_cases h2 : c < 4
    · have e : decide (0 ≤ c ∧ c < 4) = true := by simp [h1, h2]
      rw [e]
      go_enter Try.func46, Try.ntmps46
      go_wp2_with fail
      go_ret
      exact ⟨rfl, rfl⟩
    · have e : decide (0 ≤ c ∧ c < 4) = false := by simp [h2]
      rw [e]
      go_enter Try.func46, Try.ntmps46
      go_wp2_with fail
      go_ret
      exact ⟨rfl, rfl⟩
  · have e : decide (0 ≤ c ∧ c < 4) = false := by simp [h1]
    rw [e]
    go_enter Try.func46, Try.ntmps46
    go_wp2_with fail
    go_ret
    exact ⟨rfl, rfl⟩

theorem ret_bool8 {a b : Bool} (h : a = b) : Ending.returned (.bool a) = .returned (.bool b) := by rw [h]

set_option maxHeartbeats 1600000 in
theorem nMay_any (w : World) (c l s : Int) : Calls Try.prog 49 #[stV c l s] w fun e w' => e = .returned (.bool (mayS c l s)) ∧ Keeps [] w w' := by
  have IC := hid (fun W => nIsClient_any W c)
  have K := hid ((Keeps.refl [] w).alloc (.cells #[.int .i64 c, .int .i64 l, .int .i64 s] 48))
  have E0 : Hid (∀ x, decide (0 ≤ c ∧ c < 4) = false → x = false → x = mayS c l s) := hid (fun x h hx => by rw [hx]; symm; simp [mayS]; simp at h; omega)
  unfold stV
  by_cases h0 : decide (0 ≤ c ∧ c < 4) = true
  · by_cases h1 : 0 ≤ l
    · by_cases h2 : l ≤ 1048576
      · by_cases h3 : 1 ≤ s
        · by_cases h4 : s ≤ 1073741824
          · have E : Hid (true = mayS c l s) := hid (by simp at h0; symm; simp [mayS]; omega)
            rw [h0] at IC
            clear h0
            go_enter Try.func49, Try.ntmps49
            go_wp2_with (first | (go_at_call 46; refine (IC.out _).mono ?_; rintro e w' ⟨rfl, rfl⟩) | fail)
            go_ret
            exact ⟨ret_bool8 E.out, K.out⟩
          · have E : Hid (decide (s ≤ 1073741824) = mayS c l s) := hid (by rw [show mayS c l s = false by simp [mayS]; omega]; simp; omega)
            rw [h0] at IC
            clear h0
            go_enter Try.func49, Try.ntmps49
            go_wp2_with (first | (go_at_call 46; refine (IC.out _).mono ?_; rintro e w' ⟨rfl, rfl⟩) | fail)
            go_ret
            exact ⟨ret_bool8 E.out, K.out⟩
        · have E : Hid (false = mayS c l s) := hid (by symm; simp [mayS]; omega)
          rw [h0] at IC
          clear h0
          go_enter Try.func49, Try.ntmps49
          go_wp2_with (first | (go_at_call 46; refine (IC.out _).mono ?_; rintro e w' ⟨rfl, rfl⟩) | fail)
          go_ret
          exact ⟨ret_bool8 E.out, K.out⟩
      · have E : Hid (false = mayS c l s) := hid (by symm; simp [mayS]; omega)
        rw [h0] at IC
        clear h0
        go_enter Try.func49, Try.ntmps49
        go_wp2_with (first | (go_at_call 46; refine (IC.out _).mono ?_; rintro e w' ⟨rfl, rfl⟩) | fail)
        go_ret
        exact ⟨ret_bool8 E.out, K.out⟩
    · have E : Hid (false = mayS c l s) := hid (by symm; simp [mayS]; omega)
      rw [h0] at IC
      clear h0
      go_enter Try.func49, Try.ntmps49
      go_wp2_with (first | (go_at_call 46; refine (IC.out _).mono ?_; rintro e w' ⟨rfl, rfl⟩) | fail)
      go_ret
      exact ⟨ret_bool8 E.out, K.out⟩
  · have h0' : decide (0 ≤ c ∧ c < 4) = false := by simpa using h0
    have E := hid (E0.out false h0' rfl)
    rw [h0'] at IC
    clear h0 h0'
    go_enter Try.func49, Try.ntmps49
    go_wp2_with (first | (go_at_call 46; refine (IC.out _).mono ?_; rintro e w' ⟨rfl, rfl⟩) | fail)
    go_ret
    exact ⟨ret_bool8 E.out, K.out⟩

section
variable (w : World) (c l s c' l' s' : Int)
set_option maxHeartbeats 400000 in
theorem nElder_any : Calls Try.prog 53 #[stV c l s, stV c' l' s'] w fun e w' => e = .returned (.bool (decide (l < l'))) ∧ Keeps [] w w' := by
  have K := hid (((Keeps.refl [] w).alloc (.cells #[.int .i64 c, .int .i64 l, .int .i64 s] 48)).alloc (.cells #[.int .i64 c', .int .i64 l', .int .i64 s'] 48))
  unfold stV
  go_enter Try.func53, Try.ntmps53
  go_wp2_with fail
  go_ret
  exact ⟨rfl, K.out⟩
set_option maxHeartbeats 400000 in
theorem nNewer_any : Calls Try.prog 54 #[stV c l s, stV c' l' s'] w fun e w' => e = .returned (.bool (decide (l' < l))) ∧ Keeps [] w w' := by
  have K := hid (((Keeps.refl [] w).alloc (.cells #[.int .i64 c, .int .i64 l, .int .i64 s] 48)).alloc (.cells #[.int .i64 c', .int .i64 l', .int .i64 s'] 48))
  unfold stV
  go_enter Try.func54, Try.ntmps54
  go_wp2_with fail
  go_ret
  exact ⟨rfl, K.out⟩
set_option maxHeartbeats 400000 in
theorem nBehind_any : Calls Try.prog 56 #[stV c l s, stV c' l' s'] w fun e w' => e = .returned (.bool (decide (s < s'))) ∧ Keeps [] w w' := by
  have K := hid (((Keeps.refl [] w).alloc (.cells #[.int .i64 c, .int .i64 l, .int .i64 s] 48)).alloc (.cells #[.int .i64 c', .int .i64 l', .int .i64 s'] 48))
  unfold stV
  go_enter Try.func56, Try.ntmps56
  go_wp2_with fail
  go_ret
  exact ⟨rfl, K.out⟩
end

set_option maxHeartbeats 400000 in
theorem nSame_any (w : World) (c l s c' l' s' : Int) : Calls Try.prog 55 #[stV c l s, stV c' l' s'] w fun e w' => e = .returned (.bool (decide (c = c' ∧ l = l' ∧ s = s'))) ∧ Keeps [] w w' := by
  unfold stV
  go_enter Try.func55, Try.ntmps55
  go_wp2_with fail
  all_goals (go_ret; exact ⟨ret_bool8 (by simp_all), (((Keeps.refl [] w).alloc _).alloc _)⟩)

set_option maxHeartbeats 400000 in
theorem nIsMade_any (w : World) (p : Nat) (M : List Nat) (R : Nat → Rw) (T : Tab) (H : WinAt w p M R T) : Calls Try.prog 42 #[.pointer (some ⟨p, 0, none⟩)] w fun e w' => e = .returned (.bool true) ∧ w = w' := by
  have c0 := H.made
  clear H
  go_enter Try.func42, Try.ntmps42
  go_wp2_with fail
  go_ret
  exact ⟨rfl, rfl⟩

/-- The questions, as one value. -/
def qsV : Value := .agg #[.func (.func 53) #[] #[], .int .i64 2, .func (.func 54) #[] #[], .int .i64 3, .func (.func 55) #[] #[], .int .i64 1, .func (.func 56) #[] #[], .int .i64 2]
theorem iQns : (Try.prog.info? 96).map (fun i => (i.zero, i.size)) = some (some (.agg #[.nilFunc, .int .i64 0, .nilFunc, .int .i64 0, .nilFunc, .int .i64 0, .nilFunc, .int .i64 0]), 8) := by kernel_rfl
theorem iQn : (Try.prog.info? 95).map (fun i => (i.zero, i.size)) = some (some (.agg #[.nilFunc, .int .i64 0]), 2) := by kernel_rfl
theorem iStamp : (Try.prog.info? 48).map (fun i => (i.zero, i.size)) = some (some (.agg #[.int .i64 0, .int .i64 0, .int .i64 0]), 3) := by kernel_rfl
def qsA : Array Value := #[.func (.func 53) #[] #[], .int .i64 2, .func (.func 54) #[] #[], .int .i64 3, .func (.func 55) #[] #[], .int .i64 1, .func (.func 56) #[] #[], .int .i64 2]
theorem wpList_storeQs {ops : Array Oper} {rest : List Oper} {o : Oper} {a : Act} {w : World} {Q : Exit → Act → World → Prop} (hgd : o.guard = none) (x y : Operand) (ho : o.op = .store 96 x y) (W : World)
    (hw : w = W.alloc (.cells #[.nilFunc, .int .i64 0, .nilFunc, .int .i64 0, .nilFunc, .int .i64 0, .nilFunc, .int .i64 0] 96)) (hx : a.eval x = .pointer (some ⟨W.heap.size, 0, none⟩)) (hy : a.eval y = .agg qsA)
    (h : wpList Try.prog ops Q rest (a.put o.dst undef) (W.alloc (.cells qsA 96))) : wpList Try.prog ops Q (o :: rest) a w :=
  wpList_noval hgd _ (exec_storeNew 96 x y ho W _ qsA hw hx hy iQns rfl (by simp [qsA, Value.oneCell'])) h
set_option maxHeartbeats 400000 in
theorem nKinds_any (w : World) : Calls Try.prog 52 #[] w fun e w' => e = .returned qsV ∧ Keeps [] w w' := by
  go_enter Try.func52, Try.ntmps52
  go_wp2_with (first | (refine wpList_storeQs rfl _ _ rfl w rfl rfl rfl ?_) | fail)
  refine bodyPost_ret (results_cell_row (p := 0) (ty := 96) rfl _ _ _ 96 qsA (0, 0) _ rfl (heap_alloc_new w _) Try.underlying96 rfl (size_of' iQns)) rfl ?_
  exact ⟨rfl, (Keeps.refl [] w).alloc _⟩
end Go.Proofs.Ytkfebgbgnpdgpaa
