/- How words stand to each other, infinities too; quotients of scaled whole numbers; sums and means of whole numbers. -/
import Derived.Test.YtoffepagogmkkaaFlD
namespace Go.Proofs.Ytoffepagogmkkaa
open Ieee

/-- A word that is no NaN, as a whole number. -/
def fkey (s : Bool) (r : Nat) : Int := if s then -(r : Int) else r

theorem sv_lt_key {s t : Bool} {a b : Nat} (h : fkey s a < fkey t b) : sv s (dv a) < sv t (dv b) := by
  have hp : ∀ r, 0 < r → 0 < dv r := fun r h => dv_pos h
  have ha := dv_nonneg a
  have hb := dv_nonneg b
  unfold fkey at h
  unfold sv
  cases s <;> cases t <;> simp only [Bool.false_eq_true, if_false, if_true] at h ⊢
  · exact rv_lt dL dB_pos (show a < b by omega)
  · omega
  · by_cases hb0 : 0 < b
    · have := hp b hb0; grind
    · have := hp a (by omega); grind
  · have : dv b < dv a := rv_lt dL dB_pos (show b < a by omega)
    grind

theorem read_inf (s : Bool) : double.read (dw s dInf) = .infinity s := by cases s <;> decide

theorem order_key (s t : Bool) {a b : Nat} (ha : a ≤ dInf) (hb : b ≤ dInf) : double.order (dw s a) (dw t b) = some (compare (fkey s a) (fkey t b)) := by
  by_cases ha2 : a < dInf
  · by_cases hb2 : b < dInf
    · rcases Int.lt_trichotomy (fkey s a) (fkey t b) with h | h | h
      · rw [Int.compare_eq_lt.2 h]
        have h1 := sv_lt_key h
        rcases order_word s t ha2 hb2 with ⟨e, _⟩ | ⟨_, h2⟩ | ⟨_, h2⟩
        · exact e
        · rw [h2] at h1; exact absurd h1 Rat.lt_irrefl
        · grind
      · rw [h]
        have hv : sv s (dv a) = sv t (dv b) := by
          unfold fkey at h
          unfold sv
          cases s <;> cases t <;> simp only [Bool.false_eq_true, if_false, if_true] at h ⊢
          · rw [show a = b by omega]
          · rw [show a = 0 by omega, show b = 0 by omega, dv_zero]; rfl
          · rw [show a = 0 by omega, show b = 0 by omega, dv_zero]; rfl
          · rw [show a = b by omega]
        rcases order_word s t ha2 hb2 with ⟨_, h2⟩ | ⟨e, _⟩ | ⟨_, h2⟩
        · rw [hv] at h2; exact absurd h2 Rat.lt_irrefl
        · rw [e]; simp
        · rw [hv] at h2; exact absurd h2 Rat.lt_irrefl
      · rw [Int.compare_eq_gt.2 h]
        have h1 := sv_lt_key h
        rcases order_word s t ha2 hb2 with ⟨_, h2⟩ | ⟨_, h2⟩ | ⟨e, _⟩
        · grind
        · rw [h2] at h1; exact absurd h1 Rat.lt_irrefl
        · exact e
    · have hb3 : b = dInf := by omega
      subst hb3
      unfold Format.order
      rw [read_word s ha2, read_inf t]
      cases t
      · simp only [Datum.order, Bool.false_eq_true, if_false]
        rw [Int.compare_eq_lt.2]
        unfold fkey
        cases s <;> simp <;> omega
      · simp only [Datum.order, if_true]
        rw [Int.compare_eq_gt.2]
        unfold fkey
        cases s <;> simp <;> omega
  · have ha3 : a = dInf := by omega
    subst ha3
    by_cases hb2 : b < dInf
    · unfold Format.order
      rw [read_word t hb2, read_inf s]
      cases s
      · simp only [Datum.order, Bool.false_eq_true, if_false]
        rw [Int.compare_eq_gt.2]
        unfold fkey
        cases t <;> simp <;> omega
      · simp only [Datum.order, if_true]
        rw [Int.compare_eq_lt.2]
        unfold fkey
        cases t <;> simp <;> omega
    · have hb3 : b = dInf := by omega
      subst hb3
      unfold Format.order
      rw [read_inf s, read_inf t]
      cases s <;> cases t <;> decide

/-- The float of a whole number. -/
def fint (n : Int) : Nat := double.nearest (n < 0) n.natAbs 0

theorem fint_zero : fint 0 = 0 := by decide

/-- A quotient of whole numbers does not change with the scale. -/
theorem scale_div (l s k : Nat) (hk : 0 < k) (hl : k * l < 2 ^ 53) (hs : k * s < 2 ^ 53) :
    double.div (fint (k * l : Nat)) (fint (k * s : Nat)) = double.div (fint (l : Nat)) (fint (s : Nat)) := by
  have hl1 : l ≤ k * l := Nat.le_mul_of_pos_left l hk
  have hs1 : s ≤ k * s := Nat.le_mul_of_pos_left s hk
  have F : ∀ n : Nat, n < 2 ^ 53 → ∃ r, fint (n : Nat) = dw false r ∧ r < dInf ∧ dv r = (n : Rat) := by
    intro n h
    obtain ⟨r, e1, e2, e3⟩ := ofInt_word (n : Int) (by simpa using h)
    have hn : decide ((n : Int) < 0) = false := by simp
    rw [hn] at e1
    refine ⟨r, ?_, e2, by simpa using e3⟩
    unfold fint
    rw [hn]; exact e1
  obtain ⟨ra, a1, a2, a3⟩ := F (k * l) hl
  obtain ⟨rb, b1, b2, b3⟩ := F (k * s) hs
  obtain ⟨rc, c1, c2, c3⟩ := F l (by omega)
  obtain ⟨rd, d1, d2, d3⟩ := F s (by omega)
  by_cases h0 : s = 0
  · subst h0
    simp only [Nat.mul_zero] at b1 b3 ⊢
    by_cases hl0 : l = 0
    · subst hl0; simp only [Nat.mul_zero]
    · have z : fint ((0 : Nat) : Int) = dw false 0 := by decide
      rw [a1, c1, z]
      unfold Format.div
      rw [read_word false a2, read_word false c2, read_word false (show 0 < dInf by decide)]
      have pos : ∀ {r : Nat} {n : Nat}, dv r = (n : Rat) → 0 < n → fmag r ≠ 0 := by
        intro r n h hn h0
        have := fmag_zero.1 h0
        subst this
        rw [dv_zero] at h
        have := Rat.natCast_eq_zero_iff.1 h.symm
        omega
      have p1 := pos a3 (Nat.mul_pos hk (by omega))
      have p2 := pos c3 (by omega)
      simp only [Datum.quotient]
      rw [if_pos (fmag_zero.2 rfl), if_pos (fmag_zero.2 rfl), if_neg p1, if_neg p2]
  · have hs0 : 0 < s := by omega
    have pos : ∀ {r : Nat} {n : Nat}, dv r = (n : Rat) → 0 < n → 0 < r := by
      intro r n h hn
      refine Nat.pos_of_ne_zero fun e => ?_
      subst e
      rw [dv_zero] at h
      have := Rat.natCast_eq_zero_iff.1 h.symm
      omega
    have hsr : (0 : Rat) < s := Rat.natCast_pos.2 hs0
    have hkr : (0 : Rat) < k := Rat.natCast_pos.2 hk
    obtain ⟨r, n1, e1⟩ := div_word false false c2 d2 (pos d3 hs0) (x := (l : Rat) / s) (by rw [c3, d3]; exact Rat.div_mul_cancel (Rat.ne_of_gt hsr))
    obtain ⟨r', n2, e2⟩ := div_word false false a2 b2 (pos b3 (Nat.mul_pos hk hs0)) (x := (l : Rat) / s) (by
      rw [a3, b3, Rat.natCast_mul, Rat.natCast_mul, Rat.mul_comm (k : Rat) s, ← Rat.mul_assoc, Rat.div_mul_cancel (Rat.ne_of_gt hsr), Rat.mul_comm])
    rw [a1, b1, c1, d1, e1, e2, n1.one dL dB_pos n2]
end Go.Proofs.Ytoffepagogmkkaa
