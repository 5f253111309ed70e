/- Sums of whole numbers are exact; a mean of whole numbers lies between the least and the greatest of them. -/
import Derived.Test.YtoffepagogmkkaaFlE
namespace Go.Proofs.Ytoffepagogmkkaa
open Ieee

theorem sv_int (n : Int) : sv (decide (n < 0)) ((n.natAbs : Nat) : Rat) = (n : Rat) := by
  unfold sv
  by_cases h : n < 0
  · have e : ((n.natAbs : Nat) : Int) = -n := by omega
    simp only [h, decide_true, if_true]
    rw [← Rat.intCast_natCast, e, Rat.intCast_neg, Rat.neg_neg]
  · have e : ((n.natAbs : Nat) : Int) = n := by omega
    simp only [h, decide_false, Bool.false_eq_true, if_false]
    rw [← Rat.intCast_natCast, e]

/-- The word of a whole number: its sign, its rung. -/
theorem fint_word (n : Int) (h : n.natAbs < 2 ^ 53) : ∃ r, fint n = dw (decide (n < 0)) r ∧ r < dInf ∧ dv r = (n.natAbs : Rat) ∧ sv (decide (n < 0)) (dv r) = (n : Rat) := by
  obtain ⟨r, e1, e2, e3⟩ := ofInt_word n h
  exact ⟨r, e1, e2, e3, by rw [e3, sv_int]⟩

theorem add_ints (x y : Int) (hx : x.natAbs < 2 ^ 53) (hy : y.natAbs < 2 ^ 53) (hxy : (x + y).natAbs < 2 ^ 53) : double.add (fint x) (fint y) = some (fint (x + y)) := by
  obtain ⟨a, a1, a2, a3, a4⟩ := fint_word x hx
  obtain ⟨b, b1, b2, b3, b4⟩ := fint_word y hy
  obtain ⟨c, c1, c2, c3, c4⟩ := fint_word (x + y) hxy
  obtain ⟨neg, z, r, h1, h2, h3, h4, h5⟩ := add_word (decide (x < 0)) (decide (y < 0)) a2 b2
  rw [a4, b4, ← Rat.intCast_add] at h2
  have hz : z = dv c ∧ neg = decide (x + y < 0) := by
    have hc := dv_nonneg c
    rw [← c4] at h2
    unfold sv at h2
    by_cases hn : x + y < 0
    · have hpos : 0 < dv c := by
        rw [c3]; exact Rat.natCast_pos.2 (by omega)
      simp only [hn, decide_true, if_true] at h2 ⊢
      cases neg
      · simp only [Bool.false_eq_true, if_false] at h2; grind
      · simp only [if_true] at h2; exact ⟨by grind, rfl⟩
    · simp only [hn, decide_false, Bool.false_eq_true, if_false] at h2 ⊢
      cases neg
      · simp only [Bool.false_eq_true, if_false] at h2; exact ⟨h2, rfl⟩
      · simp only [if_true] at h2
        have hz0 : z = 0 := by grind
        have := h3 hz0
        simp at this
        have hc0 : dv c = 0 := by grind
        rw [c3] at hc0
        have := Rat.natCast_eq_zero_iff.1 hc0
        omega
  obtain ⟨hz, hneg⟩ := hz
  subst hz; subst hneg
  have hr : r = c := h4.one dL dB_pos (near_self dL dB_pos c)
  subst hr
  rw [a1, b1, h5, c1, Nat.min_eq_left (Nat.le_of_lt c2)]

/-- Whole numbers and their words stand alike. -/
theorem fint_key (n : Int) (h : n.natAbs < 2 ^ 53) : ∃ r, fint n = dw (decide (n < 0)) r ∧ r ≤ dInf ∧ sv (decide (n < 0)) (dv r) = (n : Rat) := by
  obtain ⟨r, a, b, _, d⟩ := fint_word n h
  exact ⟨r, a, Nat.le_of_lt b, d⟩

theorem key_le_of_sv {s t : Bool} {a b : Nat} (h : sv s (dv a) ≤ sv t (dv b)) : fkey s a ≤ fkey t b := by
  refine Int.not_lt.1 fun hl => ?_
  have := sv_lt_key hl
  grind
theorem key_eq_of_sv {s t : Bool} {a b : Nat} (h : sv s (dv a) = sv t (dv b)) : fkey s a = fkey t b :=
  Int.le_antisymm (key_le_of_sv (by rw [h]; exact Rat.le_refl)) (key_le_of_sv (by rw [h]; exact Rat.le_refl))

/-- The mean of n whole numbers whose sum is S, each from lo to hi. -/
theorem mean_word (S lo hi : Int) (n : Nat) (hn : 0 < n) (hS : S.natAbs < 2 ^ 53) (hnb : n < 2 ^ 53) (hlo : lo.natAbs < 2 ^ 53) (hhi : hi.natAbs < 2 ^ 53) (h1 : lo * n ≤ S) (h2 : S ≤ hi * n) :
    ∃ s r, double.div (fint S) (fint n) = some (dw s r) ∧ r < dInf ∧
      (∃ b, fint lo = dw (decide (lo < 0)) b ∧ b ≤ dInf ∧ fkey (decide (lo < 0)) b ≤ fkey s r) ∧ (∃ b, fint hi = dw (decide (hi < 0)) b ∧ b ≤ dInf ∧ fkey s r ≤ fkey (decide (hi < 0)) b) := by
  obtain ⟨a, a1, a2, a3, a4⟩ := fint_word S hS
  obtain ⟨b, b1, b2, b3, _⟩ := fint_word (n : Int) (by simpa using hnb)
  obtain ⟨l, l1, l2, l3, l4⟩ := fint_word lo hlo
  obtain ⟨g, g1, g2, g3, g4⟩ := fint_word hi hhi
  have hnn : decide ((n : Int) < 0) = false := by simp
  rw [hnn] at b1
  simp only [Int.natAbs_natCast] at b3
  have hnr : (0 : Rat) < n := Rat.natCast_pos.2 hn
  have hb0 : 0 < b := by
    refine Nat.pos_of_ne_zero fun e => ?_
    subst e
    rw [dv_zero] at b3
    have := Rat.natCast_eq_zero_iff.1 b3.symm
    omega
  obtain ⟨r, k1, k2⟩ := div_word (decide (S < 0)) false a2 b2 hb0 (x := dv a / n) (by rw [b3]; exact Rat.div_mul_cancel (Rat.ne_of_gt hnr))
  have hx : dv a / n * n = dv a := Rat.div_mul_cancel (Rat.ne_of_gt hnr)
  generalize dv a / n = x at *
  rw [Bool.xor_false] at k2
  have hx0 : 0 ≤ x := Rat.le_of_mul_le_mul_right (c := (n : Rat)) (by rw [hx, Rat.zero_mul]; exact dv_nonneg a) hnr
  -- where the rung lies
  have up : ∀ (q : Nat), dv a ≤ dv q * n → r ≤ q := fun q h => near_le k1 (Rat.le_of_mul_le_mul_right (c := (n : Rat)) (by rw [hx]; exact h) hnr)
  have dn : ∀ (q : Nat), dv q * n ≤ dv a → q ≤ r := fun q h => near_ge k1 (Rat.le_of_mul_le_mul_right (c := (n : Rat)) (by rw [hx]; exact h) hnr)
  have cast : ∀ (p q : Nat), p ≤ q * n → ((p : Nat) : Rat) ≤ ((q : Nat) : Rat) * n := fun p q h => by rw [← Rat.natCast_mul]; exact Rat.natCast_le_natCast.2 h
  have cast2 : ∀ (p q : Nat), q * n ≤ p → ((q : Nat) : Rat) * n ≤ ((p : Nat) : Rat) := fun p q h => by rw [← Rat.natCast_mul]; exact Rat.natCast_le_natCast.2 h
  have hra : r ≤ a := up a (by
    rw [a3]
    exact cast _ _ (Nat.le_mul_of_pos_right _ hn))
  refine ⟨decide (S < 0), r, ?_, by omega, ⟨l, l1, Nat.le_of_lt l2, ?_⟩, ⟨g, g1, Nat.le_of_lt g2, ?_⟩⟩
  · rw [a1, b1, k2, Nat.min_eq_left (by omega)]
  · by_cases hS0 : S < 0
    · have hl0 : lo < 0 := by
        refine Int.not_le.1 fun h => ?_
        have := Int.mul_nonneg h (Int.natCast_nonneg n)
        omega
      have hrl : r ≤ l := up l (by
        rw [a3, l3]
        refine cast _ _ ?_
        have e : ((lo.natAbs * n : Nat) : Int) = -(lo * n) := by rw [Int.natCast_mul, show ((lo.natAbs : Nat) : Int) = -lo by omega, Int.neg_mul]
        omega)
      unfold fkey
      simp only [hS0, hl0, decide_true, if_true]
      omega
    · by_cases hl0 : lo < 0
      · unfold fkey
        simp only [hS0, hl0, decide_true, decide_false, if_true, Bool.false_eq_true, if_false]
        omega
      · have hrl : l ≤ r := dn l (by
          rw [a3, l3]
          refine cast2 _ _ ?_
          have e : ((lo.natAbs * n : Nat) : Int) = lo * n := by rw [Int.natCast_mul, show ((lo.natAbs : Nat) : Int) = lo by omega]
          omega)
        unfold fkey
        simp only [hS0, hl0, decide_false, Bool.false_eq_true, if_false]
        omega
  · by_cases hS0 : S < 0
    · by_cases hh0 : hi < 0
      · have hrl : g ≤ r := dn g (by
          rw [a3, g3]
          refine cast2 _ _ ?_
          have e : ((hi.natAbs * n : Nat) : Int) = -(hi * n) := by rw [Int.natCast_mul, show ((hi.natAbs : Nat) : Int) = -hi by omega, Int.neg_mul]
          omega)
        unfold fkey
        simp only [hS0, hh0, decide_true, if_true]
        omega
      · unfold fkey
        simp only [hS0, hh0, decide_true, decide_false, if_true, Bool.false_eq_true, if_false]
        omega
    · have hh0 : ¬ hi < 0 := by
        intro h
        have h3 : hi * n ≤ -1 * n := Int.mul_le_mul_of_nonneg_right (by omega) (Int.natCast_nonneg n)
        omega
      have hrl : r ≤ g := up g (by
        rw [a3, g3]
        refine cast _ _ ?_
        have e : ((hi.natAbs * n : Nat) : Int) = hi * n := by rw [Int.natCast_mul, show ((hi.natAbs : Nat) : Int) = hi by omega]
        omega)
      unfold fkey
      simp only [hS0, hh0, decide_false, Bool.false_eq_true, if_false]
      omega
end Go.Proofs.Ytoffepagogmkkaa
