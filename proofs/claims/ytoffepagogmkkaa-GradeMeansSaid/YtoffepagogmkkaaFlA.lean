/- Plain facts on binary floating point: rungs, their values, what it is to be the nearest rung. B: rungs to a binade; L: the place of a subnormal number's last digit. -/
import Ieee.Arith
namespace Go.Proofs.Ytoffepagogmkkaa

theorem two_ne : (2 : Rat) ≠ 0 := by decide
theorem two_pos : (0 : Rat) < 2 := by decide

def p2 (e : Int) : Rat := (2 : Rat) ^ e
theorem p2_pos (e : Int) : 0 < p2 e := Rat.zpow_pos two_pos
theorem p2_add (a b : Int) : p2 (a + b) = p2 a * p2 b := Rat.zpow_add two_ne a b
theorem p2_nat (n : Nat) : p2 n = ((2 ^ n : Nat) : Rat) := by
  unfold p2
  rw [Rat.zpow_natCast]
  rw [Rat.natCast_pow]
  rfl
theorem p2_zero : p2 0 = 1 := Rat.zpow_zero ..
theorem p2_one : p2 1 = 2 := Rat.zpow_one ..
theorem p2_sub (a b : Int) (h : b ≤ a) : p2 a = p2 b * ((2 ^ (a - b).toNat : Nat) : Rat) := by
  rw [← p2_nat, ← p2_add]
  congr 1
  omega

/-- A comparison of whole numbers of one unit. -/
theorem nat_le_mul {a b : Nat} {t : Rat} (ht : 0 < t) (h : a ≤ b) : (a : Rat) * t ≤ (b : Rat) * t :=
  Rat.mul_le_mul_of_nonneg_right (Rat.natCast_le_natCast.2 h) (Rat.le_of_lt ht)
theorem nat_lt_mul {a b : Nat} {t : Rat} (ht : 0 < t) (h : a < b) : (a : Rat) * t < (b : Rat) * t :=
  (Rat.mul_lt_mul_right ht).2 (Rat.natCast_lt_natCast.2 h)
theorem nat_mul_le {a b : Nat} {t : Rat} (ht : 0 < t) (h : (a : Rat) * t ≤ (b : Rat) * t) : a ≤ b := by
  refine Nat.le_of_not_lt fun hl => ?_
  have := nat_lt_mul ht hl
  exact absurd h (Rat.not_le.2 this)

section
variable (B : Nat) (L : Int)

/-- The value of a rung (as if there were no end of them). -/
def rv (r : Nat) : Rat := if r < B then (r : Rat) * p2 L else ((B + r % B : Nat) : Rat) * p2 (L + (r / B - 1 : Nat))

variable {B} (hB : 0 < B)
include hB

theorem rv_of (p k : Nat) (h : p = 0 ∨ B ≤ k) (hk : k ≤ 2 * B) : rv B L (p * B + k) = (k : Rat) * p2 (L + p) := by
  unfold rv
  by_cases h1 : k < B
  · have hp : p = 0 := by omega
    subst hp
    rw [if_pos (by omega)]
    simp
  · by_cases h2 : k = 2 * B
    · subst h2
      have e : p * B + 2 * B = (p + 2) * B := by rw [Nat.add_mul]
      rw [e, if_neg (by have := Nat.le_mul_of_pos_left B (show 0 < p + 2 by omega); omega), Nat.mul_mod_left, Nat.mul_div_cancel _ hB]
      have e2 : L + ((p + 2 - 1 : Nat) : Int) = (L + p) + 1 := by omega
      rw [e2, p2_add, p2_one]
      simp only [Nat.add_zero, Rat.natCast_mul]
      rw [Rat.mul_comm (p2 (L + p)) 2, ← Rat.mul_assoc, Rat.mul_comm (B : Rat) 2]
      rfl
    · have e : p * B + k = (k - B) + (p + 1) * B := by rw [Nat.add_mul]; omega
      have hd : (p * B + k) / B = p + 1 := by
        rw [e, Nat.add_mul_div_right _ _ hB, Nat.div_eq_of_lt (by omega)]; omega
      have hm : (p * B + k) % B = k - B := by
        rw [e, Nat.add_mul_mod_self_right, Nat.mod_eq_of_lt (by omega)]
      have hge : ¬ (p * B + k < B) := by omega
      rw [if_neg hge, hd, hm]
      have e3 : B + (k - B) = k := by omega
      rw [e3]
      rfl

/-- Each rung is p * B + k. -/
theorem rung_form (r : Nat) : ∃ p k, r = p * B + k ∧ (p = 0 ∨ B ≤ k) ∧ k < 2 * B := by
  by_cases h : r < B
  · exact ⟨0, r, by omega, Or.inl rfl, by omega⟩
  · refine ⟨r / B - 1, B + r % B, ?_, Or.inr (by omega), ?_⟩
    · have h1 := Nat.div_add_mod r B
      have h2 : 1 ≤ r / B := (Nat.one_le_div_iff hB).2 (by omega)
      obtain ⟨q, hq⟩ : ∃ q, r / B = q + 1 := ⟨r / B - 1, by omega⟩
      rw [hq] at h1 ⊢
      rw [Nat.mul_comm, Nat.add_mul] at h1
      simp only [Nat.add_sub_cancel]
      omega
    · have := Nat.mod_lt r hB; omega

theorem rv_step (r : Nat) : rv B L r < rv B L (r + 1) := by
  obtain ⟨p, k, rfl, h, hk⟩ := rung_form hB r
  rw [rv_of L hB p k h (by omega), Nat.add_assoc, rv_of L hB p (k + 1) (by omega) (by omega)]
  exact nat_lt_mul (p2_pos _) (by omega)
theorem rv_lt {r s : Nat} (h : r < s) : rv B L r < rv B L s := by
  induction s with
  | zero => omega
  | succ s ih =>
    by_cases e : r = s
    · subst e; exact rv_step L hB r
    · have h1 := ih (by omega)
      have h2 := rv_step L hB s
      grind
theorem rv_le {r s : Nat} (h : r ≤ s) : rv B L r ≤ rv B L s := by
  by_cases e : r = s
  · subst e; exact Rat.le_refl
  · exact Rat.le_of_lt (rv_lt L hB (by omega))
omit hB in
theorem rv_zero : rv B L 0 = 0 := by
  unfold rv
  split
  · simp
  · rename_i h
    have : B = 0 := by omega
    subst this
    simp
theorem rv_nonneg (r : Nat) : 0 ≤ rv B L r := by
  have := rv_le L hB (Nat.zero_le r)
  rwa [rv_zero] at this

omit hB in
/-- r is the rung nearest to x; between two, the even one. -/
def Near (x : Rat) (r : Nat) : Prop :=
  (2 * x < rv B L r + rv B L (r + 1) ∨ (2 * x = rv B L r + rv B L (r + 1) ∧ r % 2 = 0)) ∧
  (r = 0 ∨ rv B L (r - 1) + rv B L r < 2 * x ∨ (rv B L (r - 1) + rv B L r = 2 * x ∧ r % 2 = 0))

theorem Near.mono {x y : Rat} {r s : Nat} (h : Near (B := B) L x r) (k : Near (B := B) L y s) (hxy : x ≤ y) : r ≤ s := by
  refine Nat.le_of_not_lt fun hl => ?_
  have h2 := h.2
  have k1 := k.1
  have m1 := rv_le L hB (show s ≤ r - 1 by omega)
  have m2 := rv_le L hB (show s + 1 ≤ r by omega)
  rcases h2 with h2 | h2 | ⟨h2, h3⟩
  · omega
  · rcases k1 with k1 | ⟨k1, k2⟩ <;> grind
  · rcases k1 with k1 | ⟨k1, k2⟩
    · grind
    · by_cases e : s + 1 = r
      · omega
      · have := rv_lt L hB (show s + 1 < r by omega)
        grind
theorem Near.one {x : Rat} {r s : Nat} (h : Near (B := B) L x r) (k : Near (B := B) L x s) : r = s :=
  Nat.le_antisymm (h.mono L hB k Rat.le_refl) (k.mono L hB h Rat.le_refl)
theorem near_self (r : Nat) : Near (B := B) L (rv B L r) r := by
  have h1 := rv_step L hB r
  refine ⟨Or.inl (by grind), ?_⟩
  by_cases e : r = 0
  · exact Or.inl e
  · have h2 := rv_lt L hB (show r - 1 < r by omega)
    exact Or.inr (Or.inl (by grind))

/-- How the nearest rung is found: x lies between low and low + 1 units of the binade. -/
theorem near_cut (hev : B % 2 = 0) {x : Rat} (p low kept : Nat) (h : p = 0 ∨ B ≤ low) (hl : low < 2 * B)
    (h1 : (low : Rat) * p2 (L + p) ≤ x) (h2 : x < ((low + 1 : Nat) : Rat) * p2 (L + p))
    (hk : (kept = low ∧ (2 * x < ((2 * low + 1 : Nat) : Rat) * p2 (L + p) ∨ (2 * x = ((2 * low + 1 : Nat) : Rat) * p2 (L + p) ∧ low % 2 = 0))) ∨
      (kept = low + 1 ∧ (((2 * low + 1 : Nat) : Rat) * p2 (L + p) < 2 * x ∨ (2 * x = ((2 * low + 1 : Nat) : Rat) * p2 (L + p) ∧ low % 2 = 1)))) :
    Near (B := B) L x (p * B + kept) := by
  have e1 := rv_of L hB p low h (by omega)
  have e2 := rv_of L hB p (low + 1) (by omega) (by omega)
  have hp : (p * B) % 2 = 0 := by rw [Nat.mul_mod, hev]; simp
  have es : ((2 * low + 1 : Nat) : Rat) * p2 (L + p) = rv B L (p * B + low) + rv B L (p * B + (low + 1)) := by
    rw [e1, e2, ← Rat.add_mul, ← Rat.natCast_add]
    congr 2
    omega
  rw [es] at hk
  rw [← e1] at h1
  rw [← e2] at h2
  rcases hk with ⟨rfl, hk⟩ | ⟨rfl, hk⟩
  · refine ⟨?_, ?_⟩
    · rcases hk with hk | ⟨hk, he⟩
      · exact Or.inl (by rw [Nat.add_assoc]; exact hk)
      · exact Or.inr ⟨by rw [Nat.add_assoc]; exact hk, by omega⟩
    · by_cases e : p * B + kept = 0
      · exact Or.inl e
      · have := rv_lt L hB (show p * B + kept - 1 < p * B + kept by omega)
        exact Or.inr (Or.inl (by grind))
  · refine ⟨?_, ?_⟩
    · have := rv_step L hB (p * B + (low + 1))
      exact Or.inl (by grind)
    · have e : p * B + (low + 1) - 1 = p * B + low := by omega
      rw [e]
      rcases hk with hk | ⟨hk, he⟩
      · exact Or.inr (Or.inl hk)
      · exact Or.inr (Or.inr ⟨hk.symm, by omega⟩)
end
end Go.Proofs.Ytoffepagogmkkaa
