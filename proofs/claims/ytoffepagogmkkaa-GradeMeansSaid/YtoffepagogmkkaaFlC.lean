/- What the operations give, in words of signs and rungs: the rung nearest to the exact value. -/
import Derived.Test.YtoffepagogmkkaaFlB
namespace Go.Proofs.Ytoffepagogmkkaa
open Ieee

abbrev dInf : Nat := double.infRung
theorem dInf_is : dInf = 2047 * 2 ^ 52 := rfl
theorem dSign_is : double.signWeight = 2 ^ 63 := rfl
abbrev dw (s : Bool) (r : Nat) : Nat := double.word s r

def fmag (r : Nat) : Nat := if r < dB then r else dB + r % dB
def fplace (r : Nat) : Int := if r < dB then dL else dL + (r / dB - 1 : Nat)
theorem dv_is (r : Nat) : dv r = (fmag r : Rat) * p2 (fplace r) := by
  unfold dv rv fmag fplace
  split <;> rfl
theorem fmag_zero {r : Nat} : fmag r = 0 ↔ r = 0 := by
  unfold fmag
  have := dB_pos
  split <;> omega
theorem dv_zero : dv 0 = 0 := rv_zero (B := dB) dL
theorem dv_pos {r : Nat} (h : 0 < r) : 0 < dv r := by
  have := rv_lt dL dB_pos h
  rwa [rv_zero] at this
theorem dv_nonneg (r : Nat) : 0 ≤ dv r := rv_nonneg dL dB_pos r

theorem read_word (s : Bool) {r : Nat} (h : r < dInf) : double.read (dw s r) = .number s (fmag r) (fplace r) := by
  have hi : dInf = 2047 * dB := rfl
  have hs : double.signWeight = 2048 * dB := by decide
  have hB := dB_pos
  unfold Format.read
  have h1 : (dw s r) % double.signWeight = r := by
    unfold dw Format.word
    rw [hs]
    split
    · rw [Nat.add_mod_left, Nat.mod_eq_of_lt (by omega)]
    · exact Nat.mod_eq_of_lt (by omega)
  have h2 : ((dw s r) / double.signWeight % 2 == 1) = s := by
    unfold dw Format.word
    rw [hs]
    cases s
    · simp only [Bool.false_eq_true, if_false]
      rw [Nat.div_eq_of_lt (by omega)]; rfl
    · simp only [if_true]
      rw [Nat.add_div_left _ (by omega), Nat.div_eq_of_lt (by omega)]; rfl
  simp only [h1, h2]
  unfold fmag fplace
  by_cases hb : r < dB
  · rw [if_pos hb, if_pos hb, if_pos hb]
  · rw [if_neg hb, if_pos h, if_neg hb, if_neg hb]

theorem nearest_any (neg : Bool) (mag : Nat) (place : Int) :
    ∃ r, Nr ((mag : Rat) * p2 place) r ∧ double.nearest neg mag place = dw neg (min r dInf) ∧ (mag < 2 ^ 53 → dL ≤ place → dv r = (mag : Rat) * p2 place) := by
  by_cases hm : mag = 0
  · subst hm
    refine ⟨0, ?_, ?_, ?_⟩
    · have := near_self (B := dB) dL dB_pos 0
      rw [rv_zero] at this
      simpa using this
    · unfold Format.nearest
      rw [if_pos rfl, Nat.zero_min]
    · intro _ _; rw [dv_zero]; simp
  · exact nearest_near neg mag place (by omega)

/-- A quotient of finite numbers, the second not 0. -/
theorem div_word (s t : Bool) {a b : Nat} (ha : a < dInf) (hb : b < dInf) (hb0 : 0 < b) {x : Rat} (hx : x * dv b = dv a) :
    ∃ r, Nr x r ∧ double.div (dw s a) (dw t b) = some (dw (s ^^ t) (min r dInf)) := by
  unfold Format.div
  rw [read_word s ha, read_word t hb]
  have hn : 0 < fmag b := by
    have := fmag_zero (r := b)
    omega
  simp only [Datum.quotient]
  rw [if_neg (by omega)]
  simp only [Option.map_some, Format.write]
  by_cases hm : fmag a = 0
  · have ha0 := fmag_zero.1 hm
    subst ha0
    rw [hm]
    refine ⟨0, ?_, ?_⟩
    · have hx0 : x = 0 := by
        rw [dv_zero] at hx
        rcases Rat.mul_eq_zero.1 hx with h | h
        · exact h
        · have := dv_pos hb0
          rw [h] at this
          exact absurd this (Rat.lt_irrefl)
      rw [hx0, ← dv_zero]
      exact near_self dL dB_pos 0
    · simp [Nat.zero_shiftLeft, Format.nearest]
  · obtain ⟨r, h1, h2⟩ := quotient_near (s ^^ t) (fmag a) (fmag b) (fplace a) (fplace b) (by omega) hn (x := x) (by
      rw [dv_is, dv_is] at hx
      have hp := p2_pos (fplace b)
      have e : fplace a - fplace b + fplace b = fplace a := by omega
      have h3 : (x * (fmag b : Rat)) * p2 (fplace b) = ((fmag a : Rat) * p2 (fplace a - fplace b)) * p2 (fplace b) := by
        rw [Rat.mul_assoc, hx, Rat.mul_assoc, ← p2_add, e]
      refine Rat.le_antisymm (Rat.le_of_mul_le_mul_right (c := p2 (fplace b)) ?_ hp) (Rat.le_of_mul_le_mul_right (c := p2 (fplace b)) ?_ hp)
      · rw [h3]; exact Rat.le_refl
      · rw [h3]; exact Rat.le_refl)
    exact ⟨r, h1, congrArg some h2⟩

theorem mul_word (s t : Bool) {a b : Nat} (ha : a < dInf) (hb : b < dInf) :
    ∃ r, Nr (dv a * dv b) r ∧ double.mul (dw s a) (dw t b) = some (dw (s ^^ t) (min r dInf)) := by
  unfold Format.mul
  rw [read_word s ha, read_word t hb]
  simp only [Datum.product, Option.map_some, Format.write]
  obtain ⟨r, h1, h2, _⟩ := nearest_any (s ^^ t) (fmag a * fmag b) (fplace a + fplace b)
  refine ⟨r, ?_, by rw [h2]⟩
  have e : ((fmag a * fmag b : Nat) : Rat) * p2 (fplace a + fplace b) = dv a * dv b := by
    rw [dv_is, dv_is, p2_add, Rat.natCast_mul]
    grind
  rwa [e] at h1

/-- A value with its sign. -/
def sv (s : Bool) (x : Rat) : Rat := if s then -x else x

theorem signed_val (s : Bool) (m k : Nat) (base : Int) : ((signed s m k : Int) : Rat) * p2 base = sv s ((m : Rat) * p2 (base + k)) := by
  have e : ((m <<< k : Nat) : Rat) * p2 base = (m : Rat) * p2 (base + k) := by
    rw [Nat.shiftLeft_eq, Rat.natCast_mul, Rat.mul_assoc, ← p2_nat, ← p2_add, Int.add_comm]
  unfold signed sv
  cases s
  · simp only [Bool.false_eq_true, if_false]
    rw [Rat.intCast_natCast, e]
  · simp only [if_true]
    rw [Rat.intCast_neg, Rat.intCast_natCast, Rat.neg_mul, e]

theorem sv_neg (s : Bool) (x : Rat) : sv (!s) x = -sv s x := by unfold sv; cases s <;> simp

/-- The sum of two signed numbers. -/
theorem sum_num (s t : Bool) (m n : Nat) (i j : Int) : ∃ (neg : Bool) (mag : Nat), Datum.sum (.number s m i) (.number t n j) = some (.number neg mag (min i j)) ∧
    sv neg ((mag : Rat) * p2 (min i j)) = sv s ((m : Rat) * p2 i) + sv t ((n : Rat) * p2 j) ∧ (mag = 0 → neg = (s && t)) := by
  simp only [Datum.sum]
  have e1 := signed_val s m (i - min i j).toNat (min i j)
  have e2 := signed_val t n (j - min i j).toNat (min i j)
  rw [show min i j + ((i - min i j).toNat : Int) = i by omega] at e1
  rw [show min i j + ((j - min i j).toNat : Int) = j by omega] at e2
  rw [← e1, ← e2, ← Rat.add_mul, ← Rat.intCast_add]
  generalize signed s m (i - min i j).toNat + signed t n (j - min i j).toNat = tot
  refine ⟨_, _, rfl, ?_, ?_⟩
  · by_cases h0 : tot = 0
    · subst h0
      simp [sv]
    · rw [if_neg h0]
      by_cases hn : tot < 0
      · have e : ((tot.natAbs : Nat) : Int) = -tot := by omega
        simp only [sv, hn, decide_true, if_true]
        rw [← Rat.neg_mul, ← Rat.intCast_natCast, e, Rat.intCast_neg, Rat.neg_neg]
      · have e : ((tot.natAbs : Nat) : Int) = tot := by omega
        simp only [sv, hn, decide_false, Bool.false_eq_true, if_false]
        rw [← Rat.intCast_natCast, e]
  · intro h
    have : tot = 0 := by omega
    rw [if_pos this]

/-- The sum of two finite numbers: of the sum's value, its sign and the rung nearest to what it is without it. -/
theorem add_word (s t : Bool) {a b : Nat} (ha : a < dInf) (hb : b < dInf) :
    ∃ (neg : Bool) (x : Rat) (r : Nat), 0 ≤ x ∧ sv neg x = sv s (dv a) + sv t (dv b) ∧ (x = 0 → neg = (s && t)) ∧ Nr x r ∧ double.add (dw s a) (dw t b) = some (dw neg (min r dInf)) := by
  unfold Format.add
  rw [read_word s ha, read_word t hb]
  obtain ⟨neg, mag, h1, h2, h3⟩ := sum_num s t (fmag a) (fmag b) (fplace a) (fplace b)
  obtain ⟨r, k1, k2, _⟩ := nearest_any neg mag (min (fplace a) (fplace b))
  rw [← dv_is, ← dv_is] at h2
  refine ⟨neg, _, r, Rat.mul_nonneg (Rat.natCast_nonneg ..) (Rat.le_of_lt (p2_pos _)), h2, ?_, k1, ?_⟩
  · intro h0
    apply h3
    rcases Rat.mul_eq_zero.1 h0 with h | h
    · exact Rat.natCast_eq_zero_iff.1 h
    · have := p2_pos (min (fplace a) (fplace b))
      rw [h] at this
      exact absurd this (Rat.lt_irrefl)
  · rw [h1]
    exact congrArg some k2

theorem sub_word (s t : Bool) {a b : Nat} (ha : a < dInf) (hb : b < dInf) :
    ∃ (neg : Bool) (x : Rat) (r : Nat), 0 ≤ x ∧ sv neg x = sv s (dv a) - sv t (dv b) ∧ (x = 0 → neg = (s && !t)) ∧ Nr x r ∧ double.sub (dw s a) (dw t b) = some (dw neg (min r dInf)) := by
  have h : double.sub (dw s a) (dw t b) = double.add (dw s a) (dw (!t) b) := by
    unfold Format.sub Format.add
    rw [read_word t hb, read_word (!t) hb]
    rfl
  obtain ⟨neg, x, r, h1, h2, h3, h4, h5⟩ := add_word s (!t) ha hb
  exact ⟨neg, x, r, h1, by rw [h2, sv_neg, Rat.sub_eq_add_neg], h3, h4, by rw [h, h5]⟩

/-- How two finite numbers stand to each other. -/
theorem order_word (s t : Bool) {a b : Nat} (ha : a < dInf) (hb : b < dInf) :
    (double.order (dw s a) (dw t b) = some .lt ∧ sv s (dv a) < sv t (dv b)) ∨ (double.order (dw s a) (dw t b) = some .eq ∧ sv s (dv a) = sv t (dv b)) ∨ (double.order (dw s a) (dw t b) = some .gt ∧ sv t (dv b) < sv s (dv a)) := by
  unfold Format.order
  rw [read_word s ha, read_word t hb]
  simp only [Datum.order]
  have e1 := signed_val s (fmag a) (fplace a - min (fplace a) (fplace b)).toNat (min (fplace a) (fplace b))
  have e2 := signed_val t (fmag b) (fplace b - min (fplace a) (fplace b)).toNat (min (fplace a) (fplace b))
  rw [show min (fplace a) (fplace b) + ((fplace a - min (fplace a) (fplace b)).toNat : Int) = fplace a by omega, ← dv_is] at e1
  rw [show min (fplace a) (fplace b) + ((fplace b - min (fplace a) (fplace b)).toNat : Int) = fplace b by omega, ← dv_is] at e2
  rw [← e1, ← e2]
  have hp := p2_pos (min (fplace a) (fplace b))
  generalize signed s (fmag a) (fplace a - min (fplace a) (fplace b)).toNat = u
  generalize signed t (fmag b) (fplace b - min (fplace a) (fplace b)).toNat = v
  rcases Int.lt_trichotomy u v with h | h | h
  · left
    exact ⟨by rw [Int.compare_eq_lt.2 h], (Rat.mul_lt_mul_right hp).2 (Rat.intCast_lt_intCast.2 h)⟩
  · right; left
    subst h
    exact ⟨by simp, rfl⟩
  · right; right
    exact ⟨by rw [Int.compare_eq_gt.2 h], (Rat.mul_lt_mul_right hp).2 (Rat.intCast_lt_intCast.2 h)⟩

/-- The float of a whole number that has a place: exact. -/
theorem ofInt_word (n : Int) (h : n.natAbs < 2 ^ 53) : ∃ r, double.nearest (n < 0) n.natAbs 0 = dw (n < 0) r ∧ r < dInf ∧ dv r = (n.natAbs : Rat) := by
  obtain ⟨r, h1, h2, h3⟩ := nearest_any (n < 0) n.natAbs 0
  have e := h3 h (by decide)
  rw [p2_zero, Rat.mul_one] at e
  have hr : r < dInf := by
    have hs : 1075 * dB + dB ≤ dInf := by decide
    refine Nat.lt_of_lt_of_le (Nat.lt_of_not_le fun hle => ?_) hs
    have m := rv_le (B := dB) dL dB_pos hle
    have hv := rv_of (B := dB) dL dB_pos 1075 dB (Or.inr (Nat.le_refl _)) (by have := dB_pos; omega)
    rw [show dL + ((1075 : Nat) : Int) = 1 from by decide, p2_one] at hv
    have a1 : ((n.natAbs : Nat) : Rat) < ((dB * 2 : Nat) : Rat) := Rat.natCast_lt_natCast.2 h
    rw [Rat.natCast_mul] at a1
    have : rv dB dL (1075 * dB + dB) ≤ dv r := m
    rw [e, hv] at this
    exact absurd this (Rat.not_le.2 a1)
  exact ⟨r, by rw [h2, Nat.min_eq_left (Nat.le_of_lt hr)], hr, e⟩
end Go.Proofs.Ytoffepagogmkkaa
