/- bag: the walks of made, Len, modulo, New. -/
import Derived.Test.YtkfebgbgnpdgpaaBgB
namespace Go.Proofs.Ytkfebgbgnpdgpaa
open Go.RowKit

set_option maxHeartbeats 400000 in
theorem bMade_any (w : World) (p : Nat) (X : List Nat) (v : Value) (most : Int) (ms : List Mg) (H : BagAt 75 33 w p X v most ms) : Calls Try.prog 35 #[.pointer (some ⟨p, 0, none⟩)] w fun e w' => e = .returned (.bool true) ∧ w = w' := by
  have c0 := H.c0
  have h1 : decide (0 < most) = true := by have := H.m1; simp; omega
  clear H
  go_enter Try.func35, Try.ntmps35
  go_wp2_with fail
  go_ret
  exact ⟨rfl, rfl⟩

set_option maxHeartbeats 400000 in
theorem bLen_any (w : World) (p : Nat) (X : List Nat) (v : Value) (most : Int) (ms : List Mg) (H : BagAt 75 33 w p X v most ms) : Calls Try.prog 13 #[.pointer (some ⟨p, 0, none⟩)] w fun e w' => e = .returned (.int .i64 ms.length) ∧ w = w' := by
  have c1 := H.c1
  have M := hid (bMade_any w p X v most ms H)
  obtain ⟨a, c, rfl⟩ := H.own.shape
  clear H
  go_enter Try.func13, Try.ntmps13
  go_wp2_with (first | (go_at_call 35; refine M.out.mono ?_; rintro e w' ⟨rfl, rfl⟩) | fail)
  go_ret
  exact ⟨rfl, rfl⟩

theorem ret_int7 {k : IntKind} {a b : Int} (h : a = b) : Ending.returned (.int k a) = .returned (.int k b) := by rw [h]

theorem mod_is (n : Int) (k : Nat) : ((n.tmod k + k) % (k : Int)) = n % (k : Int) := by
  rw [Int.add_emod_right, Int.tmod_eq_emod]
  split
  · simp
  · have : ((k : Int).natAbs : Int) = k := by omega
    rw [this]
    simp

theorem mod_lo (n : Int) (k : Nat) (h : 0 < k) : 0 ≤ n % (k : Int) ∧ n % (k : Int) < k := ⟨Int.emod_nonneg _ (by omega), Int.emod_lt_of_pos _ (by omega)⟩

set_option maxHeartbeats 400000 in
theorem bModulo_any (w : World) (n : Int) (hn : i64 n) (k : Nat) (h0 : 0 < k) (h64 : k ≤ 64) : Calls Try.prog 37 #[.int .i64 n, .int .i64 k] w fun e w' => e = .returned (.int .i64 (n % (k : Int))) ∧ w = w' := by
  obtain ⟨n1, n2⟩ := hn
  have M := hid (mod_is n k)
  have t1 : -(k : Int) < n.tmod k := by
    have := Int.tmod_lt_of_pos (-n) (show (0 : Int) < k by omega)
    rw [Int.neg_tmod] at this
    omega
  have t2 : n.tmod k < k := Int.tmod_lt_of_pos n (by omega)
  have hk : (k : Int) ≠ 0 := by omega
  go_enter Try.func37, Try.ntmps37
  go_wp2_with fail
  go_ret
  exact ⟨ret_int7 M.out, rfl⟩

def NewPost7 (w : World) (T E : TypeId) (most : Int) (e : Ending) (w' : World) : Prop :=
  (¬ (1 ≤ most ∧ most ≤ 64) ∧ e = .returned (.tuple #[.pointer none, .int .i64 1]) ∧ w = w') ∨
  ((1 ≤ most ∧ most ≤ 64) ∧ ∃ p, w.heap.size ≤ p ∧ e = .returned (.tuple #[.pointer (some ⟨p, 0, none⟩), .int .i64 0]) ∧ BagAt T E w' p [] (.slice none 0 0) most [] ∧ Keeps [] w w')

theorem bag_new {T E : TypeId} {w : World} {most : Int} (h1 : 1 ≤ most) (h2 : most ≤ 64) : BagAt T E (w.alloc (.cells #[.int .i64 most, .slice none 0 0] T)) w.heap.size [] (.slice none 0 0) most [] :=
  ⟨heap_alloc_new _ _, Own.nil _ _ _, by simp [Value.ownBlock], by simp, h1, h2, by simp; omega⟩

set_option maxHeartbeats 400000 in
theorem bNew_any (w : World) (most : Int) (hm : i64 most) : Calls Try.prog 11 #[.int .i64 most] w (NewPost7 w 75 33 most) := by
  obtain ⟨m1, m2⟩ := hm
  by_cases h1 : most < 1
  · go_enter Try.func11, Try.ntmps11
    go_wp2_with fail
    go_ret2
    exact Or.inl ⟨by omega, rfl, rfl⟩
  · by_cases h2 : 64 < most
    · go_enter Try.func11, Try.ntmps11
      go_wp2_with fail
      go_ret2
      exact Or.inl ⟨by omega, rfl, rfl⟩
    · have B := hid (@bag_new 75 33 w most (by omega) (by omega))
      go_enter Try.func11, Try.ntmps11
      go_wp2_with fail
      go_ret2
      exact Or.inr ⟨⟨by omega, by omega⟩, _, Nat.le_refl _, rfl, B.out, (Keeps.refl [] w).alloc _⟩

end Go.Proofs.Ytkfebgbgnpdgpaa
